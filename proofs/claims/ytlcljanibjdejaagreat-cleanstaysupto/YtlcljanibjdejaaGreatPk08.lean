/- Read. Slices of attributes and tokens that are read: Lies; SameAttrs, SameTokens. Names of elements that close others; innermost, closedBy. SameTokens of tokens that are the same. isName, however long a text is. -/
import Derived.Test.YtlcljanibjdejaaGreatPk07
import Derived.Laws.StructEq
import Derived.Test.YtlcljanibjdejaaGreatPk03
namespace Go.Proofs.YtlcljanibjdejaaGreat
open Go.RowKit Go.Maps

theorem enters79 : Enters 79 := enters_of Tryz.func79 (by kernel_rfl) (by kernel_rfl)
theorem enters80 : Enters 80 := enters_of Tryz.func80 (by kernel_rfl) (by kernel_rfl)

/-- Tokens of a text, from a place on. -/
def readAt (l : List UInt8) : Nat → Nat → List UInt8 → List Tok → List Tok
  | 0, _, raw, out => out ++ endT raw
  | f + 1, k, raw, out =>
    if l.length ≤ k then out ++ endT raw else
      match pieceL l k raw out with
      | some (k', raw', out') => readAt l f k' raw' out'
      | none => readAt l f l.length (raw ++ l.drop k) out

theorem readAt_end {l : List UInt8} {f k : Nat} {raw : List UInt8} {out : List Tok} (h : l.length ≤ k) : readAt l (f + 1) k raw out = out ++ endT raw := by
  simp only [readAt, if_pos h]
theorem readAt_some {l : List UInt8} {f k : Nat} {raw : List UInt8} {out : List Tok} {k' : Nat} {raw' : List UInt8} {out' : List Tok} (h : k < l.length) (hp : pieceL l k raw out = some (k', raw', out')) : readAt l (f + 1) k raw out = readAt l f k' raw' out' := by
  simp only [readAt, if_neg (Nat.not_le.2 h), hp]
theorem readAt_none {l : List UInt8} {f k : Nat} {raw : List UInt8} {out : List Tok} (h : k < l.length) (hp : pieceL l k raw out = none) : readAt l (f + 1) k raw out = readAt l f l.length (raw ++ l.drop k) out := by
  simp only [readAt, if_neg (Nat.not_le.2 h), hp]

def readL (l : List UInt8) : List Tok := readAt l (l.length + 1) 0 [] []

/-- A slice of tokens. -/
def IsToks (w : World) (B : Nat) (v : Value) (ts : List Tok) : Prop := ∃ l : List (Tok × Value), l.map (·.1) = ts ∧ w.ownsRow B 117 4 v l.length (outCells l) ∧ ∀ p ∈ l, HasAttrs w B p

theorem IsToks.keeps {w w' : World} {B : Nat} {v : Value} {ts : List Tok} (h : IsToks w B v ts) (hk : Keeps [] w w') : IsToks w' B v ts := by
  obtain ⟨l, h1, h2, h3⟩ := h
  exact ⟨l, h1, hk.owns h2 (fun _ _ => List.not_mem_nil), fun p hp => hk.owns (h3 p hp) (fun _ _ => List.not_mem_nil)⟩

theorem Rd.toks {w : World} {B r b : Nat} {rawv outv : Value} {raw : List UInt8} {l : List (Tok × Value)} (h : Rd w B r b rawv outv raw l) : IsToks w B outv (l.map (·.1)) := ⟨l, rfl, h.out, h.attrs⟩

theorem doneK (b : Nat) (s : ByteArray) (k : Nat) (w : World) (hT : IsText w b s k) :
    Calls Tryz.prog 77 #[.pointer (some ⟨b, 0, none⟩)] w fun e w' => e = .returned (.bool (decide (s.size ≤ k))) ∧ IsText w' b s k ∧ Keeps [] w w' :=
  (done_any b s k w hT).mono fun _ _ ⟨he, _, hw⟩ => ⟨he, by rw [hw]; exact hT, by rw [hw]; exact (Keeps.refl _ _).drewN _⟩

theorem try_piece (B r b : Nat) (rawv outv : Value) (raw : List UInt8) (l : List (Tok × Value)) (s : ByteArray) (k : Nat) (w : World) (hs : s.size ≤ 3000) (h : Rd w B r b rawv outv raw l) (hT : IsText w b s k) (hB : B ≤ w.heap.size) (hraw : raw.length ≤ 3000) (hl : l.length ≤ 90000) (hlt : k < s.size)
    (P : Option (Nat × List UInt8 × List Tok)) (hP : pieceL s.data.toList k raw (l.map (·.1)) = P) :
    Calls Tryz.prog 78 #[.pointer (some ⟨b, 0, none⟩), .func (.func 79) #[.pointer (some ⟨r, 0, none⟩)] #[]] w fun e w' =>
      (e = .returned (.bool true) ∧ (∃ k' raw' rawv' outv' l', P = some (k', raw', l'.map (·.1)) ∧ Rd w' B r b rawv' outv' raw' l' ∧ IsText w' b s k') ∨
       e = .returned (.bool false) ∧ (P = none ∧ Rd w' B r b rawv outv raw l) ∧ IsText w' b s k) ∧ Keeps (b :: touch r rawv outv) w w' := by
  refine try_first 79 _ _ _ (b :: touch r rawv outv) b s k w hT enters79 (by simp) (fun i hi => ?_) (fun w2 w3 hno hk => ⟨hno.1, hno.2.keeps hk ?_ ?_ ?_ ?_ ?_⟩) (fun w1 hk1 => ?_)
  · rcases List.mem_cons.1 hi with rfl | hi
    · exact hT.lt
    · exact h.touch_lt i hi
  · simpa using h.ne hT
  · intro g hg hm; simp at hm; subst hm; exact block_ne h.raw hT (by decide) hg
  · intro g hg hm; simp at hm; subst hm; exact block_ne h.out hT (by decide) hg
  · intro p hp g hg hm; simp at hm; subst hm; exact block_ne (h.attrs p hp) hT (by decide) hg
  · exact h.b0
  · refine (piece_any B r b rawv outv raw l s k w1 hs (h.keepsNil hk1) (hT.keeps hk1 List.not_mem_nil) (Nat.le_trans hB hk1.size) hraw hl hlt).mono ?_
    rw [hP]
    rintro e w2 ⟨⟨k', raw', rawv', outv', l', h1, h2, h3, h4⟩ | ⟨h1, h2, h3, h4⟩, hk⟩
    · exact ⟨.inl ⟨h2, k', raw', rawv', outv', l', h1, h3, h4⟩, hk⟩
    · exact ⟨.inr ⟨h2, ⟨h1, h3⟩, h4⟩, hk⟩

set_option maxRecDepth 4000 in
set_option maxHeartbeats 4000000 in
theorem read_some (s : ByteArray) (w : World) (hs : s.size ≤ 3000) (hM : HasMax w) :
    Calls Tryz.prog 18 #[.string s] w fun e w' => ∃ v, e = .returned (.tuple #[v, .int .i64 0]) ∧ IsToks w' w.heap.size v (readL s.data.toList) ∧ Keeps [] w w' := by
  have hl := len_size s
  have h0 := hM.lt
  obtain ⟨R, hRR⟩ : ∃ R, readL s.data.toList = R := ⟨_, rfl⟩
  rw [hRR]
  have HR0 : Hid (readAt s.data.toList (s.size + 1) 0 [] [] = R) := by rw [← hRR]; unfold readL; rw [hl]; exact rfl
  clear hRR
  have hgt : decide ((3000 : Int) < (s.size : Int)) = false := by simp; omega
  obtain ⟨i0, hi, hz0, hz1, hz2⟩ := info_parts Tryz.info5
  go_enter Tryz.func18, Tryz.ntmps18
  go_wp2_with fail
  refine (new_any s _).mono ?_
  rintro e w1 ⟨rfl, hw1⟩
  have hT1 : IsText w1 w.heap.size s 0 := by rw [hw1]; exact heap_alloc_new w _
  have hk1 : Keeps [] w w1 := by rw [hw1]; exact (Keeps.refl [] w).alloc _
  have hsz1 : w1.heap.size = w.heap.size + 1 := by rw [hw1]; simp
  have HZ := hide hsz1
  clear hw1 hsz1
  go_wp2_with fail
  have hR0 : Rd (w1.alloc (.cells #[.pointer (some ⟨w.heap.size, 0, none⟩), .slice none 0 0, .slice none 0 0] 109)) w.heap.size w1.heap.size w.heap.size (.slice none 0 0) (.slice none 0 0) [] [] :=
    ⟨heap_alloc_new w1 _, World.ownsRow_nil _ _ _ _, World.ownsRow_nil _ _ _ _, by simp, hM.keeps (hk1.alloc _) List.not_mem_nil, h0, by rw [HZ.out]; omega, Nat.le_refl _⟩
  have hT0 := hT1.keeps ((Keeps.refl [] w1).alloc (.cells #[.pointer (some ⟨w.heap.size, 0, none⟩), .slice none 0 0, .slice none 0 0] 109)) List.not_mem_nil
  have hk0 : Keeps [] w (w1.alloc (.cells #[.pointer (some ⟨w.heap.size, 0, none⟩), .slice none 0 0, .slice none 0 0] 109)) := hk1.alloc _
  have hr1 : w.heap.size < w1.heap.size := by rw [HZ.out]; omega
  generalize hrr : w1.heap.size = r at *
  clear hT1 hk1 HZ
  go_loopg [] (s.size + 1) (fun g wr => ∃ (k : Nat) (raw : List UInt8) (rawv outv : Value) (l : List (Tok × Value)), k ≤ s.size ∧ s.size + 1 ≤ g + k ∧ Rd wr w.heap.size r w.heap.size rawv outv raw l ∧ IsText wr w.heap.size s k ∧ Keeps [] w wr ∧ raw.length ≤ k ∧ l.length ≤ 2 * k ∧ Hid (readAt s.data.toList g k raw (l.map (·.1)) = R))
  case atStart => exact ⟨0, [], _, _, [], Nat.zero_le _, by omega, hR0, hT0, hk0, Nat.le_refl _, Nat.le_refl _, HR0⟩
  case round =>
    obtain ⟨k, raw, rawv, outv, l, hk, hg, hRd, hT2, hkp, hra, hla, hF⟩ := hrel
    clear HR0 hR0 hT0 hk0
    obtain ⟨f, rfl⟩ : ∃ f, gk = f + 1 := ⟨gk - 1, by omega⟩
    have c0 := hRd.reader.cell0
    go_wp2_with fail
    refine (doneK _ s k _ hT2).mono ?_
    rintro e w3 ⟨rfl, hT3, hk3⟩
    have h3 := hRd.keepsNil hk3
    have hkp3 := hkp.trans hk3
    clear c0 hRd hT2 hkp hk3
    by_cases hend : s.size ≤ k
    · have hd : decide (s.size ≤ k) = true := by simpa using hend
      rw [hd]
      have hE : l.map (·.1) ++ endT raw = R := by
        have := hF.out
        rwa [readAt_end (by omega)] at this
      have HE := hide hE
      clear hE hF
      go_wp2_with fail
      refine (endText_any _ _ _ rawv outv raw l _ h3 hkp3.size (by omega) (by omega)).mono ?_
      rintro e w4 ⟨rfl, rawv', outv', h4, hk4, _⟩
      have c2 := h4.reader.cell2
      have hk4' : Keeps [] w w4 := (hkp3.up.trans hk4).mono fun i hi hlt => by
        simp [touch] at hi
        rcases hi with hi | hi | hi
        · omega
        · have := (h3.raw.lt _ hi).1; omega
        · have := (h3.out.lt _ hi).1; omega
      go_wp2_with fail
      go_ret2
      refine ⟨_, rfl, ?_, hk4'⟩
      rw [← HE.out, ← endToks_map, ← List.map_append]
      exact h4.toks
    · have hd : decide (s.size ≤ k) = false := by simpa using hend
      rw [hd]
      obtain ⟨P, hP⟩ : ∃ P, pieceL s.data.toList k raw (l.map (·.1)) = P := ⟨_, rfl⟩
      have HES := hide (fun k' raw' out' (h : P = some (k', raw', out')) => (readAt_some (f := f) (by omega) (hP.trans h)).symm.trans hF.out)
      have HEN := hide (fun (h : P = none) => (readAt_none (f := f) (by omega) (hP.trans h)).symm.trans hF.out)
      have hbd := hide (fun k' raw' out' (h : P = some (k', raw', out')) => pieceL_bound (hP.trans h) (by omega))
      have htp := hide (try_piece _ _ _ rawv outv raw l s k w3 hs h3 hT3 hkp3.size (by omega) (by omega) (by omega) P hP)
      have hmf : ∀ (fn : Fn) (first cap : Array Value) (w : World), (Instr.makeFunc fn first cap).run Tryz.prog w = .ok (.func fn first cap) w := fun _ _ _ _ => rfl
      clear hF hP
      have c3 := h3.reader.cell0
      go_wp2_with fail
      refine htp.out.mono ?_
      have hin : ∀ i, i ∈ (w.heap.size :: touch r rawv outv) → w.heap.size ≤ i := fun i hi => by
        simp [touch] at hi
        rcases hi with hi | hi | hi | hi
        · omega
        · omega
        · have := (h3.raw.lt _ hi).1; omega
        · have := (h3.out.lt _ hi).1; omega
      rintro e w4 ⟨⟨rfl, k', raw', rawv', outv', l', rfl, h4, hT4⟩ | ⟨rfl, ⟨rfl, h4⟩, hT4⟩, hk4⟩
      · have hb := hbd.out _ _ _ rfl
        have hk4' : Keeps [] w w4 := (hkp3.up.trans hk4).mono fun i hi hlt => by have := hin i hi; omega
        clear c3
        go_wp2_with fail
        go_roundg f
        case measure => omega
        case rel => exact ⟨k', raw', rawv', outv', l', by omega, by omega, h4, hT4, hk4', by omega, by simpa using (show (l'.map (·.1)).length ≤ 2 * k' by have := hb.2.2.2; simp at this; simp; omega), HES.out _ _ _ rfl⟩
      · have hk4' : Keeps [] w w4 := (hkp3.up.trans hk4).mono fun i hi hlt => by have := hin i hi; omega
        have hre := hide (fun (w : World) hT => rest_any w.heap.size s k w hT hk)
        have hst : (s.extract k s.size).data.toList = s.data.toList.drop k := Lib.extract_to_end s k
        have hsl : (s.extract k s.size).size + k = s.size := by simp; omega
        have HRN : Hid (readAt s.data.toList f s.size (raw ++ (s.extract k s.size).data.toList) (l.map (·.1)) = R) := by rw [hst]; have := HEN.out rfl; rwa [hl] at this
        have hrs := hide (fun (w5 : World) hT => rest_any w.heap.size s k w5 hT hk)
        generalize s.extract k s.size = X at *
        have d0 := h4.reader.cell0
        have d1 := h4.reader.cell1
        clear c3 hre hst
        go_upto_region 6 with fail
        go_region_law (first
            | (refine step_call rfl 80 _ _ rfl enters80 #[.pointer (some ⟨w.heap.size, 0, none⟩)] (by simp [Act.eval]) (hrs.out _ (show IsText w4.drew w.heap.size s k from hT4)) ?_; rintro e w7 ⟨rfl, hT7, hk7⟩; refine ⟨_, rfl, ?_⟩; have h7 := h4.keepsText hT4 (keeps_drew hk7); have e1 := h7.reader.cell1)
            | (refine step_own_str rfl _ _ 107 9 rfl w.heap.size 5 i0 Tryz.underlying107 Tryz.underlying9 hi hz0 hz1 hz2 rawv raw.length (Lib.byteCells raw) rfl h7.raw X rfl (by unfold maxLen; omega) (by omega) (Nat.le_trans hk4'.size hk7.size) ?_; intro v8 w8 ho8 hg8; obtain ⟨o8, c8, rfl⟩ := row_form ho8; have hk8 : Keeps rawv.ownBlock.toList w7 w8 := (Keeps.refl _ w7).grown hg8 (fun i e => .inl (by simp [e])); have hR8 := h7.rawReader hk8; have g8 := hR8.cell1; have f8 := hR8.free))
        all_goals go_wp2
        all_goals
          have hx := raw_done (w := w4) h7 hT7 (keeps_drew hk7) hk8 (own_str (t := X) ho8)
          have hk9 := (hk4'.up.trans hx.2.2).mono (T := []) fun i hi hlt => by have := hin i hi; omega
          go_roundg f
          case measure => omega
          case rel => exact ⟨s.size, _, _, outv, l, by omega, by omega, hx.1, hx.2.1, hk9, by rw [List.length_append, len_size]; omega, by omega, HRN⟩

theorem read_any (s : ByteArray) (w : World) (hs : s.size ≤ maxLen) (hM : HasMax w) :
    Calls Tryz.prog 18 #[.string s] w fun e w' => Keeps [] w w' ∧
      if 3000 < s.size then e = .returned (.tuple #[.slice none 0 0, .int .i64 2]) else ∃ v, e = .returned (.tuple #[v, .int .i64 0]) ∧ IsToks w' w.heap.size v (readL s.data.toList) := by
  by_cases h : 3000 < s.size
  · simp only [if_pos h]
    have hgt : decide ((3000 : Int) < (s.size : Int)) = true := by simp; omega
    have hlen : s.size ≤ 9223372036854775807 := hs
    go_enter Tryz.func18, Tryz.ntmps18
    go_wp2_with fail
    go_ret2
    exact ⟨Keeps.refl _ _, rfl⟩
  · simp only [if_neg h]
    refine (read_some s w (by omega) hM).mono ?_
    rintro e w' ⟨v, he, ht, hk⟩
    exact ⟨hk, v, he, ht⟩
end Go.Proofs.YtlcljanibjdejaaGreat

namespace Go.Proofs.YtlcljanibjdejaaGreat
open Go.RowKit Go.Maps

/-- n elements of z cells each lie where a slice says. -/
def Lies (w : World) (v : Value) (n z : Nat) (xs : List Value) : Prop :=
  xs.length = n * z ∧ ((v = .slice none 0 0 ∧ n = 0) ∨ (∃ g o c, v = .slice (some ⟨g, o, none⟩) n c ∧ n ≤ c ∧ c ≤ maxLen ∧ ∀ j u, xs[j]? = some u → w.cell? ⟨g, o + j, none⟩ = some u) ∨ (n = 0 ∧ ∃ a c, v = .slice a 0 c ∧ c ≤ maxLen))

theorem Lies.form {w : World} {v : Value} {n z : Nat} {xs : List Value} (h : Lies w v n z xs) : ∃ o c, v = .slice o n c ∧ n ≤ c ∧ c ≤ maxLen := by
  rcases h.2 with ⟨rfl, rfl⟩ | ⟨g, o, c, rfl, h1, h2, _⟩ | ⟨rfl, a, c, rfl, h1⟩
  · exact ⟨_, _, rfl, Nat.le_refl _, Nat.zero_le _⟩
  · exact ⟨_, _, rfl, h1, h2⟩
  · exact ⟨_, _, rfl, Nat.zero_le _, h1⟩

theorem Lies.addr {w : World} {a : Option Addr} {n m c z : Nat} {xs : List Value} (h : Lies w (.slice a m c) n z xs) (hn : 0 < n) : ∃ g o, a = some ⟨g, o, none⟩ ∧ ∀ j u, xs[j]? = some u → w.cell? ⟨g, o + j, none⟩ = some u := by
  rcases h.2 with ⟨_, h0⟩ | ⟨g, o, c', he, _, _, hc⟩ | ⟨h0, _⟩
  rotate_left 2
  · omega
  · omega
  · simp at he
    exact ⟨g, o, he.1, hc⟩

theorem Lies.of_row {w : World} {B : Nat} {e : TypeId} {z : Nat} {v : Value} {n : Nat} {xs : List Value} (h : w.ownsRow B e z v n xs) : Lies w v n z xs := by
  refine ⟨h.1, ?_⟩
  rcases h.2 with ⟨h1, h2⟩ | ⟨g, cap, cur, rfl, _, _, h3, h4, _⟩
  · exact .inl ⟨h1, h2⟩
  · refine .inr (.inl ⟨g, 0, cap, rfl, h3, h4, fun j u hj => ?_⟩)
    have := h.cells (g := g) rfl j u hj
    rw [add_zero] at this
    rw [Nat.zero_add]
    exact this

theorem cell_keeps {w w' : World} (hk : Keeps [] w w') {a : Addr} {u : Value} (h : w.cell? a = some u) : w'.cell? a = some u := by
  have hlt : a.block < w.heap.size := by
    rcases Nat.lt_or_ge a.block w.heap.size with h' | h'
    · exact h'
    · unfold World.cell? at h
      rw [Array.getElem?_eq_none h'] at h
      simp at h
  exact (World.cell?_of_block (hk.block _ hlt List.not_mem_nil)).trans h

theorem Lies.keeps {w w' : World} {v : Value} {n z : Nat} {xs : List Value} (h : Lies w v n z xs) (hk : Keeps [] w w') : Lies w' v n z xs := by
  refine ⟨h.1, ?_⟩
  rcases h.2 with ⟨h1, h2⟩ | ⟨g, o, c, rfl, h3, h4, h5⟩ | h6
  · exact .inl ⟨h1, h2⟩
  · exact .inr (.inl ⟨g, o, c, rfl, h3, h4, fun j u hj => cell_keeps hk (h5 j u hj)⟩)
  · exact .inr (.inr h6)

theorem pair_at0 (l : List Pair) (k : Nat) (hk : k < l.length) : (pairCells l)[k * 2]? = some (.string ⟨l[k].1.toArray⟩) := by
  induction l generalizing k with
  | nil => simp at hk
  | cons p l ih =>
    have e : pairCells (p :: l) = .string ⟨p.1.toArray⟩ :: .string ⟨p.2.toArray⟩ :: pairCells l := by simp [pairCells]
    rw [e]
    cases k with
    | zero => simp
    | succ k => rw [show (k + 1) * 2 = k * 2 + 1 + 1 from by omega]; simpa using ih k (by simpa using hk)
theorem pair_at1 (l : List Pair) (k : Nat) (hk : k < l.length) : (pairCells l)[k * 2 + 1]? = some (.string ⟨l[k].2.toArray⟩) := by
  induction l generalizing k with
  | nil => simp at hk
  | cons p l ih =>
    have e : pairCells (p :: l) = .string ⟨p.1.toArray⟩ :: .string ⟨p.2.toArray⟩ :: pairCells l := by simp [pairCells]
    rw [e]
    cases k with
    | zero => simp
    | succ k => rw [show (k + 1) * 2 + 1 = (k * 2 + 1) + 1 + 1 from by omega]; simpa using ih k (by simpa using hk)

theorem strEq (x y : List UInt8) : ((⟨x.toArray⟩ : ByteArray).toList == (⟨y.toArray⟩ : ByteArray).toList) = decide (x = y) := by
  rw [ByteArray.toList_eq, ByteArray.toList_eq, Bool.eq_iff_iff]
  simp
theorem strNe (x y : List UInt8) : ((⟨x.toArray⟩ : ByteArray).toList != (⟨y.toArray⟩ : ByteArray).toList) = decide (x ≠ y) := by
  unfold bne
  rw [strEq]
  simp

theorem eqAttr (x y : Pair) (w : World) : (binOp .neq 52 (.agg #[.string ⟨x.1.toArray⟩, .string ⟨x.2.toArray⟩]) (.agg #[.string ⟨y.1.toArray⟩, .string ⟨y.2.toArray⟩])).run Tryz.prog w = .ok (.bool (decide (x ≠ y))) w := by
  have u9 := Tryz.underlying9
  have hS : Tryz.prog.underlying 52 = some (.struct (Tryz.prog.fieldsOf 52)) := by kernel_rfl
  have hp : Tryz.prog.stoodInHeld 52 = false := by kernel_rfl
  have e : decide (x ≠ y) = !(decide (x.1 = y.1) && decide (x.2 = y.2)) := by
    obtain ⟨x1, x2⟩ := x
    obtain ⟨y1, y2⟩ := y
    by_cases h1 : x1 = y1 <;> by_cases h2 : x2 = y2 <;> simp [h1, h2]
  rw [e, run_neq_struct, show (10000 : Nat) = 9999 + 1 from rfl, run_equalIn_agg w 9999 52 _ _ hS hp]
  simp only [Program.fieldsOf, Tryz.underlying52]
  go_simp
  by_cases h1 : x.1 = y.1 <;> by_cases h2 : x.2 = y.2 <;> simp [h1, h2]

theorem eq_upto {α : Type} {a b : List α} (hlen : a.length = b.length) (h : ∀ j (h1 : j < a.length) (h2 : j < b.length), a[j] = b[j]) : a = b := List.ext_getElem hlen h

set_option maxHeartbeats 2000000 in
theorem sameAttrs_any (w : World) (va vb : Value) (la lb : List Pair) (ha : Lies w va la.length 2 (pairCells la)) (hb : Lies w vb lb.length 2 (pairCells lb)) :
    Calls Tryz.prog 92 #[va, vb] w fun e w' => e = .returned (.bool (decide (la = lb))) ∧ ∃ n, w' = w.drewN n := by
  obtain ⟨oa, ca, rfl, ha1, ha2⟩ := ha.form
  obtain ⟨ob, cb, rfl, hb1, hb2⟩ := hb.form
  unfold maxLen at ha2 hb2
  by_cases hlen : la.length = lb.length
  · obtain ⟨R, hR⟩ : ∃ R, decide (la = lb) = R := ⟨_, rfl⟩
    rw [hR]
    have HR := hide hR
    clear hR
    have HL := hide hlen
    have hn : (((la.length : Int) != (lb.length : Int))) = false := by simp; omega
    clear hlen
    go_enter Tryz.func92, Tryz.ntmps92
    go_wp2_with fail
    go_loopw [5] (fun i wr => ∃ k m : Nat, k ≤ la.length ∧ i = .int .i64 k ∧ wr = w.drewN m ∧ Hid (∀ j (h1 : j < la.length) (h2 : j < lb.length), j < k → la[j] = lb[j])) (fun i _ => la.length - (intOf i).toNat)
    case atStart => exact ⟨0, 0, Nat.zero_le _, rfl, rfl, fun j _ _ h => absurd h (Nat.not_lt_zero _)⟩
    case round =>
      obtain ⟨k, m, hk, rfl, rfl, hH⟩ := hrel
      by_cases hlt : k < la.length
      · obtain ⟨ga, xa, rfl, hca⟩ := ha.addr (by omega)
        obtain ⟨gb, xb, rfl, hcb⟩ := hb.addr (by rw [← HL.out]; omega)
        have a0 := hca _ _ (pair_at0 la k hlt)
        have a1 := hca _ _ (pair_at1 la k hlt)
        rw [← Nat.add_assoc] at a1
        have hltb : k < lb.length := by rw [← HL.out]; exact hlt
        have b0 := hcb _ _ (pair_at0 lb k hltb)
        have b1 := hcb _ _ (pair_at1 lb k hltb)
        rw [← Nat.add_assoc] at b1
        clear hca hcb
        have hgd : Tryz.prog.eqGuardType Tryz.prog.depth 52 = false := by kernel_rfl
        have heq := fun w => eqAttr la[k] lb[k] w
        by_cases hkk : la[k] = lb[k]
        · have hdd : decide (la[k] ≠ lb[k]) = false := by simpa using hkk
          rw [hdd] at heq
          have HKK := hide hkk
          clear hdd hkk
          go_wp2_with fail
          go_quiet (fail)
          go_wp2_with fail
          go_roundw
          case rel => exact ⟨k + 1, _, by omega, by go_num, rfl, fun j h1 h2 hj => by
            rcases Nat.lt_succ_iff_lt_or_eq.1 hj with hj | rfl
            · exact hH.out j h1 h2 hj
            · exact HKK.out⟩
          case measure => simp [intOf]; omega
        · have hdd : decide (la[k] ≠ lb[k]) = true := by simpa using hkk
          rw [hdd] at heq
          have hRf : R = false := by
            rw [← HR.out]
            have : la ≠ lb := fun e => hkk (by subst e; rfl)
            simpa using this
          subst hRf
          clear hdd hkk
          go_wp2_with fail
          go_quiet (fail)
          go_wp2_with fail
          go_ret
          exact ⟨rfl, m + nq, by simp⟩
      · have hRt : R = true := by
          rw [← HR.out]
          have : la = lb := eq_upto HL.out fun j h1 h2 => hH.out j h1 h2 (by omega)
          simpa using this
        subst hRt
        go_wp2_with fail
        go_ret
        exact ⟨rfl, _, rfl⟩
  · have hn : (((la.length : Int) != (lb.length : Int))) = true := by simp; omega
    have hf : decide (la = lb) = false := by
      have : la ≠ lb := fun e => hlen (by rw [e])
      simpa using this
    rw [hf]
    clear hf
    go_enter Tryz.func92, Tryz.ntmps92
    go_wp2_with fail
    go_ret
    exact ⟨rfl, 0, rfl⟩

/-- A slice of tokens that is read. -/
def Toks (w : World) (v : Value) (ts : List Tok) : Prop := ∃ l : List (Tok × Value), l.map (·.1) = ts ∧ Lies w v l.length 4 (outCells l) ∧ ∀ p ∈ l, Lies w p.2 p.1.attrs.length 2 (pairCells p.1.attrs)

theorem IsToks.toks {w : World} {B : Nat} {v : Value} {ts : List Tok} (h : IsToks w B v ts) : Toks w v ts := by
  obtain ⟨l, h1, h2, h3⟩ := h
  exact ⟨l, h1, Lies.of_row h2, fun p hp => Lies.of_row (h3 p hp)⟩
theorem Toks.keeps {w w' : World} {v : Value} {ts : List Tok} (h : Toks w v ts) (hk : Keeps [] w w') : Toks w' v ts := by
  obtain ⟨l, h1, h2, h3⟩ := h
  exact ⟨l, h1, h2.keeps hk, fun p hp => (h3 p hp).keeps hk⟩

theorem tok_at (l : List (Tok × Value)) (k j : Nat) (hk : k < l.length) (hj : j < 4) : (outCells l)[k * 4 + j]? = (tokCells l[k])[j]? := by
  induction l generalizing k with
  | nil => simp at hk
  | cons p l ih =>
    have e : outCells (p :: l) = tokCells p ++ outCells l := by simp [outCells]
    have h4 : (tokCells p).length = 4 := rfl
    rw [e]
    cases k with
    | zero => rw [Nat.zero_mul, Nat.zero_add, List.getElem?_append_left (by omega)]; rfl
    | succ k =>
      rw [List.getElem?_append_right (by omega), h4, show (k + 1) * 4 + j - 4 = k * 4 + j from by omega]
      exact ih k (by simpa using hk)

theorem lies_tok {w : World} {g o : Nat} {l : List (Tok × Value)} (h : ∀ j u, (outCells l)[j]? = some u → w.cell? ⟨g, o + j, none⟩ = some u) (k : Nat) (hk : k < l.length) :
    w.cell? ⟨g, o + k * 4, none⟩ = some (.int .i64 l[k].1.kind) ∧ w.cell? ⟨g, o + k * 4 + 1, none⟩ = some (.string ⟨l[k].1.name.toArray⟩) ∧ w.cell? ⟨g, o + k * 4 + 2, none⟩ = some l[k].2 ∧ w.cell? ⟨g, o + k * 4 + 3, none⟩ = some (.string ⟨l[k].1.text.toArray⟩) := by
  have e : ∀ j, j < 4 → o + k * 4 + j = o + (k * 4 + j) := fun j _ => by omega
  refine ⟨?_, ?_, ?_, ?_⟩
  · exact h (k * 4) _ ((tok_at l k 0 hk (by omega)).trans rfl)
  · rw [e 1 (by omega)]; exact h _ _ ((tok_at l k 1 hk (by omega)).trans rfl)
  · rw [e 2 (by omega)]; exact h _ _ ((tok_at l k 2 hk (by omega)).trans rfl)
  · rw [e 3 (by omega)]; exact h _ _ ((tok_at l k 3 hk (by omega)).trans rfl)

end Go.Proofs.YtlcljanibjdejaaGreat

namespace Go.Proofs.YtlcljanibjdejaaGreat
open Go.RowKit Go.Maps

def emptyN (n : List UInt8) : Bool := (n == [98, 114]) || (n == [104, 114]) || (n == [105, 109, 103])
def listN (n : List UInt8) : Bool := (n == [117, 108]) || (n == [111, 108])
def wallN (n : List UInt8) : Bool := listN n || (n == [108, 105]) || (n == [98, 108, 111, 99, 107, 113, 117, 111, 116, 101])
def blockN (n : List UInt8) : Bool := wallN n || (n == [112]) || (n == [104, 114])

theorem nameEq (L l : List UInt8) : ((⟨L.toArray⟩ : ByteArray).toList == l) = (L == l) := by rw [ByteArray.toList_eq]

set_option maxHeartbeats 1000000 in
theorem isEmpty_any (n : List UInt8) (w : World) : Calls Tryz.prog 166 #[.string ⟨n.toArray⟩] w fun e w' => e = .returned (.bool (emptyN n)) ∧ w' = w := by
  unfold emptyN
  cases h1 : (n == [98, 114]) <;> cases h2 : (n == [104, 114]) <;> cases h3 : (n == [105, 109, 103])
  all_goals
    have p1 := (nameEq n _).trans h1
    have p2 := (nameEq n _).trans h2
    have p3 := (nameEq n _).trans h3
    go_enter Tryz.func166, Tryz.ntmps166
    go_wp2_with fail
    go_ret
    exact ⟨rfl, rfl⟩

set_option maxHeartbeats 1000000 in
theorem isList_any (n : List UInt8) (w : World) : Calls Tryz.prog 241 #[.string ⟨n.toArray⟩] w fun e w' => e = .returned (.bool (listN n)) ∧ w' = w := by
  unfold listN
  cases h1 : (n == [117, 108]) <;> cases h2 : (n == [111, 108])
  all_goals
    have p1 := (nameEq n _).trans h1
    have p2 := (nameEq n _).trans h2
    go_enter Tryz.func241, Tryz.ntmps241
    go_wp2_with fail
    go_ret
    exact ⟨rfl, rfl⟩

set_option maxHeartbeats 1000000 in
theorem isWall_any (n : List UInt8) (w : World) : Calls Tryz.prog 239 #[.string ⟨n.toArray⟩] w fun e w' => e = .returned (.bool (wallN n)) ∧ w' = w := by
  have hc := hide (fun w => isList_any n w)
  unfold wallN
  generalize listN n = b at *
  cases b <;> cases h2 : (n == [108, 105]) <;> cases h3 : (n == [98, 108, 111, 99, 107, 113, 117, 111, 116, 101])
  all_goals
    have p2 := (nameEq n _).trans h2
    have p3 := (nameEq n _).trans h3
    go_enter Tryz.func239, Tryz.ntmps239
    go_wp2_with (go_at_call 241; refine (hc.out _).mono ?_; rintro e w' ⟨rfl, rfl⟩)
    go_ret
    exact ⟨rfl, rfl⟩

set_option maxHeartbeats 1000000 in
theorem isBlock_any (n : List UInt8) (w : World) : Calls Tryz.prog 237 #[.string ⟨n.toArray⟩] w fun e w' => e = .returned (.bool (blockN n)) ∧ w' = w := by
  have hc := hide (fun w => isWall_any n w)
  unfold blockN
  generalize wallN n = b at *
  cases b <;> cases h2 : (n == [112]) <;> cases h3 : (n == [104, 114])
  all_goals
    have p2 := (nameEq n _).trans h2
    have p3 := (nameEq n _).trans h3
    go_enter Tryz.func237, Tryz.ntmps237
    go_wp2_with (go_at_call 239; refine (hc.out _).mono ?_; rintro e w' ⟨rfl, rfl⟩)
    go_ret
    exact ⟨rfl, rfl⟩

theorem isP_any (n : List UInt8) (w : World) : Calls Tryz.prog 238 #[.string ⟨n.toArray⟩] w fun e w' => e = .returned (.bool (n == [112])) ∧ w' = w := by
  cases h1 : (n == [112])
  all_goals
    have p1 := (nameEq n _).trans h1
    go_enter Tryz.func238, Tryz.ntmps238
    go_wp2_with fail
    go_ret
    exact ⟨rfl, rfl⟩

theorem isLi_any (n : List UInt8) (w : World) : Calls Tryz.prog 240 #[.string ⟨n.toArray⟩] w fun e w' => e = .returned (.bool (n == [108, 105])) ∧ w' = w := by
  cases h1 : (n == [108, 105])
  all_goals
    have p1 := (nameEq n _).trans h1
    go_enter Tryz.func240, Tryz.ntmps240
    go_wp2_with fail
    go_ret
    exact ⟨rfl, rfl⟩

theorem never_any (n : List UInt8) (w : World) : Calls Tryz.prog 170 #[.string ⟨n.toArray⟩] w fun e w' => e = .returned (.bool false) ∧ w' = w := by
  go_enter Tryz.func170, Tryz.ntmps170
  go_wp2_with fail
  go_ret
  exact ⟨rfl, rfl⟩

theorem isName1_any (n m : List UInt8) (b : Nat) (w : World) (hc : w.cell? ⟨b, 0, none⟩ = some (.string ⟨m.toArray⟩)) :
    Calls Tryz.prog 169 #[.string ⟨n.toArray⟩, .pointer (some ⟨b, 0, none⟩)] w fun e w' => e = .returned (.bool (n == m)) ∧ w' = w := by
  have p0 : ((⟨n.toArray⟩ : ByteArray).toList == (⟨m.toArray⟩ : ByteArray).toList) = (n == m) := by rw [ByteArray.toList_eq, ByteArray.toList_eq]
  cases h1 : (n == m)
  all_goals
    have p1 := p0.trans h1
    clear p0
    go_enter Tryz.func169, Tryz.ntmps169
    go_wp2_with fail
    go_ret
    exact ⟨rfl, rfl⟩

/-! ### innermost -/
/-- Nodes whose names are these lie in a row. -/
def Named (w : World) (v : Value) (ns : List (List UInt8)) : Prop :=
  ∃ a c, v = .slice a ns.length c ∧ ns.length ≤ c ∧ c ≤ maxLen ∧ ∀ i (h : i < ns.length), ∃ g x, a = some ⟨g, x, none⟩ ∧ w.cell? ⟨g, x + i * 4, none⟩ = some (.string ⟨ns[i].toArray⟩)

/-- The place of the innermost one that is looked for, of the first i ones. -/
def innerTo (is hides : List UInt8 → Bool) (ns : List (List UInt8)) : Nat → Nat
  | 0 => ns.length
  | i + 1 => if is (ns.getD i []) = true then i else if hides (ns.getD i []) = true then ns.length else innerTo is hides ns i
def innerL (is hides : List UInt8 → Bool) (ns : List (List UInt8)) : Nat := innerTo is hides ns ns.length

theorem innerTo_le (is hides : List UInt8 → Bool) (ns : List (List UInt8)) : ∀ i, i ≤ ns.length → innerTo is hides ns i ≤ ns.length
  | 0, _ => Nat.le_refl _
  | i + 1, h => by
    unfold innerTo
    split
    · omega
    · split
      · exact Nat.le_refl _
      · exact innerTo_le is hides ns i (by omega)

set_option maxRecDepth 4000 in
set_option maxHeartbeats 4000000 in
theorem innermost_any (K1 K2 : Nat) (caps1 caps2 : Array Value) (is hides : List UInt8 → Bool) (w : World) (v : Value) (ns : List (List UInt8)) (h : Named w v ns) (hK1 : Enters K1) (hK2 : Enters K2)
    (h1 : ∀ n : List UInt8, Calls Tryz.prog K1 (#[.string ⟨n.toArray⟩] ++ caps1) w fun e w' => e = .returned (.bool (is n)) ∧ w' = w)
    (h2 : ∀ n : List UInt8, Calls Tryz.prog K2 (#[.string ⟨n.toArray⟩] ++ caps2) w fun e w' => e = .returned (.bool (hides n)) ∧ w' = w) :
    Calls Tryz.prog 168 #[v, .func (.func K1) #[] caps1, .func (.func K2) #[] caps2] w fun e w' => e = .returned (.int .i64 (innerL is hides ns)) ∧ w' = w := by
  obtain ⟨a, c, rfl, hc1, hc2, hcell⟩ := h
  unfold maxLen at hc2
  unfold Enters at hK1 hK2
  obtain ⟨R, hR⟩ : ∃ R, innerL is hides ns = R := ⟨_, rfl⟩
  rw [hR]
  have HR := hide hR
  clear hR
  have H1 := hide h1
  have H2 := hide h2
  have HC := hide hcell
  clear h1 h2 hcell
  go_enter Tryz.func168, Tryz.ntmps168
  go_wp2_with fail
  go_loopw [7] (fun i wr => ∃ k : Nat, k ≤ ns.length ∧ i = .int .i64 ((k : Int) - 1) ∧ w = wr ∧ Hid (innerTo is hides ns k = R)) (fun i _ => (intOf i + 1).toNat)
  case atStart => exact ⟨ns.length, Nat.le_refl _, rfl, rfl, HR⟩
  case round =>
    obtain ⟨k, hk, rfl, rfl, hH⟩ := hrel
    clear HR
    cases k with
    | zero =>
      have hRe : R = ns.length := hH.out.symm
      subst hRe
      clear hH
      go_wp2_with fail
      go_ret
      exact ⟨rfl, rfl⟩
    | succ i =>
      obtain ⟨g, x, rfl, hx⟩ := HC.out i (by omega)
      have hge : decide ((0 : Int) ≤ (i : Int)) = true := by simp
      have e1 : ((i + 1 : Nat) : Int) - 1 = i := by omega
      rw [e1]
      have hS := hH.out
      unfold innerTo at hS
      have hg : ns.getD i [] = ns[i] := by simp [List.getD, List.getElem?_eq_getElem (show i < ns.length by omega)]
      rw [hg] at hS
      have HS := hide hS
      have C1 := hide (H1.out ns[i])
      have C2 := hide (H2.out ns[i])
      clear hS hH hg e1
      generalize ns[i] = n at *
      cases hi : is n
      · rw [hi] at C1 HS
        cases hh : hides n
        · rw [hh] at C2 HS
          have HS2 : Hid (innerTo is hides ns i = R) := by have := HS.out; rw [Hid]; simpa using this
          clear HS hi hh
          go_wp2_with fail
          refine C1.out.mono ?_
          rintro e w1 ⟨rfl, rfl⟩
          go_wp2_with fail
          refine C2.out.mono ?_
          rintro e w2 ⟨rfl, rfl⟩
          go_wp2_with fail
          go_roundw
          case rel => exact ⟨i, by omega, by go_num, by first | rfl | trivial, HS2⟩
          case measure => simp [intOf]
        · rw [hh] at C2 HS
          have hRe : R = ns.length := by have := HS.out; simpa using this.symm
          subst hRe
          clear HS hi hh
          go_wp2_with fail
          refine C1.out.mono ?_
          rintro e w1 ⟨rfl, rfl⟩
          go_wp2_with fail
          refine C2.out.mono ?_
          rintro e w2 ⟨rfl, rfl⟩
          go_wp2_with fail
          go_ret
          exact ⟨rfl, rfl⟩
      · rw [hi] at C1 HS
        have hRe : R = i := by have := HS.out; simpa using this.symm
        subst hRe
        clear HS hi
        go_wp2_with fail
        refine C1.out.mono ?_
        rintro e w1 ⟨rfl, rfl⟩
        go_wp2_with fail
        go_ret
        exact ⟨rfl, rfl⟩

/-! ### closedBy -/
theorem enters238 : Enters 238 := enters_of Tryz.func238 (by kernel_rfl) (by kernel_rfl)
theorem enters239 : Enters 239 := enters_of Tryz.func239 (by kernel_rfl) (by kernel_rfl)
theorem enters240 : Enters 240 := enters_of Tryz.func240 (by kernel_rfl) (by kernel_rfl)
theorem enters241 : Enters 241 := enters_of Tryz.func241 (by kernel_rfl) (by kernel_rfl)
theorem enters169 : Enters 169 := enters_of Tryz.func169 (by kernel_rfl) (by kernel_rfl)
theorem enters170 : Enters 170 := enters_of Tryz.func170 (by kernel_rfl) (by kernel_rfl)

theorem Named.take {w : World} {a : Option Addr} {n c : Nat} {ns : List (List UInt8)} (h : Named w (.slice a n c) ns) {m : Nat} (hm : m ≤ ns.length) : Named w (.slice a m c) (ns.take m) := by
  obtain ⟨a', c', he, h1, h2, h3⟩ := h
  simp only [Value.slice.injEq] at he
  obtain ⟨rfl, rfl, rfl⟩ := he
  refine ⟨a, c, by rw [List.length_take, Nat.min_eq_left hm], by rw [List.length_take]; omega, h2, fun i hi => ?_⟩
  rw [List.length_take] at hi
  obtain ⟨g, x, e, hx⟩ := h3 i (by omega)
  exact ⟨g, x, e, by rw [List.getElem_take]; exact hx⟩

/-- Where an element of this name closes others from. -/
def closedL (ns : List (List UInt8)) (n : List UInt8) : Nat :=
  if n = [108, 105] then innerL (· == [108, 105]) listN (ns.take (if blockN n = true then innerL (· == [112]) wallN ns else ns.length))
  else if blockN n = true then innerL (· == [112]) wallN ns else ns.length

set_option maxRecDepth 4000 in
set_option maxHeartbeats 4000000 in
theorem closedBy_any (w : World) (v : Value) (ns : List (List UInt8)) (n : List UInt8) (h : Named w v ns) :
    Calls Tryz.prog 163 #[v, .string ⟨n.toArray⟩] w fun e w' => e = .returned (.int .i64 (closedL ns n)) ∧ w' = w := by
  have hb := hide (fun w => isBlock_any n w)
  have hp := hide (innermost_any 238 239 #[] #[] (· == [112]) wallN w v ns h enters238 enters239 (fun n => isP_any n w) (fun n => isWall_any n w))
  have hle : innerL (· == [112]) wallN ns ≤ ns.length := innerTo_le _ _ _ _ (Nat.le_refl _)
  obtain ⟨F, hF⟩ : ∃ F, (if blockN n = true then innerL (· == [112]) wallN ns else ns.length) = F := ⟨_, rfl⟩
  have hFl : F ≤ ns.length := by rw [← hF]; split <;> omega
  obtain ⟨a, c, rfl, hc1, hc2, hcell⟩ := id h
  have hl := hide (innermost_any 240 241 #[] #[] (· == [108, 105]) listN w (.slice a F c) (ns.take F) (h.take hFl) enters240 enters241 (fun n => isLi_any n w) (fun n => isList_any n w))
  unfold closedL
  rw [hF]
  have hbl : n = [108, 105] → blockN n = true := fun e => by subst e; rfl
  unfold maxLen at hc2
  have HF := hide hF
  clear hF hcell h
  generalize innerL (· == [108, 105]) listN (ns.take F) = L at *
  generalize innerL (· == [112]) wallN ns = Q at *
  cases hbk : blockN n
  · have hne : n ≠ [108, 105] := fun e => by have := hbl e; rw [hbk] at this; simp at this
    have e1 : (n == [108, 105]) = false := by simpa using hne
    have e2 := (nameEq n _).trans e1
    rw [hbk] at hb
    rw [if_neg hne]
    have hFn : F = ns.length := by rw [← HF.out, hbk]; simp
    subst hFn
    clear hbk hbl HF hl hp hne hFl
    go_enter Tryz.func163, Tryz.ntmps163
    go_wp2_with fail
    refine (hb.out _).mono ?_
    rintro e w1 ⟨rfl, rfl⟩
    go_wp2_with fail
    go_ret
    exact ⟨rfl, rfl⟩
  · rw [hbk] at hb
    have hFQ : F = Q := by rw [← HF.out, hbk]; simp
    subst hFQ
    by_cases hli : n = [108, 105]
    · have e1 : (n == [108, 105]) = true := by simpa using hli
      have e2 := (nameEq n _).trans e1
      rw [if_pos hli]
      clear hbk hbl HF hli
      go_enter Tryz.func163, Tryz.ntmps163
      go_wp2_with fail
      refine (hb.out _).mono ?_
      rintro e w1 ⟨rfl, h1⟩
      obtain rfl : w = w1 := h1.symm
      go_wp2_with fail
      refine hp.out.mono ?_
      rintro e w1 ⟨rfl, h1⟩
      obtain rfl : w = w1 := h1.symm
      go_wp2_with fail
      refine hl.out.mono ?_
      rintro e w1 ⟨rfl, h1⟩
      obtain rfl : w = w1 := h1.symm
      go_wp2_with fail
      go_ret
      exact ⟨rfl, rfl⟩
    · have e1 : (n == [108, 105]) = false := by simpa using hli
      have e2 := (nameEq n _).trans e1
      rw [if_neg hli]
      clear hbk hbl HF hli hl
      go_enter Tryz.func163, Tryz.ntmps163
      go_wp2_with fail
      refine (hb.out _).mono ?_
      rintro e w1 ⟨rfl, h1⟩
      obtain rfl : w = w1 := h1.symm
      go_wp2_with fail
      refine hp.out.mono ?_
      rintro e w1 ⟨rfl, h1⟩
      obtain rfl : w = w1 := h1.symm
      go_wp2_with fail
      go_ret
      exact ⟨rfl, rfl⟩
end Go.Proofs.YtlcljanibjdejaaGreat

namespace Go.Proofs.YtlcljanibjdejaaGreat
open Go.RowKit Go.Maps

set_option maxRecDepth 4000 in
set_option maxHeartbeats 8000000 in
theorem sameTokens_eq (w : World) (va vb : Value) (ts : List Tok) (ha : Toks w va ts) (hb : Toks w vb ts) :
    Calls Tryz.prog 37 #[va, vb] w fun e w' => e = .returned (.bool true) ∧ ∃ n, w' = w.drewN n := by
  obtain ⟨la, hla, ha, haa⟩ := ha
  obtain ⟨lb, hlb, hb, hba⟩ := hb
  obtain ⟨oa, ca, rfl, ha1, ha2⟩ := ha.form
  obtain ⟨ob, cb, rfl, hb1, hb2⟩ := hb.form
  unfold maxLen at ha2 hb2
  have hlen : la.length = lb.length := by simpa using congrArg List.length (hla.trans hlb.symm)
  have hn : (((la.length : Int) != (lb.length : Int))) = false := by simp; omega
  have HL := hide hlen
  have HM := hide (hla.trans hlb.symm)
  clear hlen hla hlb
  go_enter Tryz.func37, Tryz.ntmps37
  go_wp2_with fail
  go_loopw [5] (fun i wr => ∃ k : Nat, k ≤ la.length ∧ i = .int .i64 k ∧ Hid (∃ m, wr = w.drewN m)) (fun i _ => la.length - (intOf i).toNat)
  case atStart => exact ⟨0, Nat.zero_le _, rfl, 0, rfl⟩
  case round =>
    obtain ⟨k, hk, rfl, hW⟩ := hrel
    have hkw : Keeps [] w wr := by obtain ⟨m, hm⟩ := hW.out; rw [hm]; exact (Keeps.refl _ _).drewN _
    by_cases hlt : k < la.length
    · obtain ⟨ga, xa, rfl, hca⟩ := (ha.keeps hkw).addr (by omega)
      obtain ⟨gb, xb, rfl, hcb⟩ := (hb.keeps hkw).addr (by rw [← HL.out]; omega)
      have hltb : k < lb.length := by rw [← HL.out]; exact hlt
      obtain ⟨a0, a1, a2, a3⟩ := lies_tok hca k hlt
      obtain ⟨b0, b1, b2, b3⟩ := lies_tok hcb k hltb
      have hpa := haa la[k] (List.getElem_mem hlt)
      have hpb := hba lb[k] (List.getElem_mem hltb)
      have hsa := hide (fun n : Nat => sameAttrs_any (wr.drewN n) la[k].2 lb[k].2 la[k].1.attrs lb[k].1.attrs (hpa.keeps (hkw.drewN n)) (hpb.keeps (hkw.drewN n)))
      have hpq : la[k].1 = lb[k].1 := by
        have h1 : (la.map (·.1))[k]? = (lb.map (·.1))[k]? := by rw [HM.out]
        simpa [List.getElem?_eq_getElem hlt, List.getElem?_eq_getElem hltb] using h1
      clear hca hcb hpa hpb
      generalize la[k] = p at *
      generalize lb[k] = q at *
      obtain ⟨⟨kp, np, ap, xp⟩, vp⟩ := p
      obtain ⟨tq, vq⟩ := q
      simp only at hpq
      subst hpq
      simp only at hsa
      go_wp2_with fail
      go_quiet ((go_at_call 92; exact Calls.quiet_of (hsa.out _)))
      go_wp2_with fail
      go_roundw
      case rel => exact ⟨k + 1, by omega, by go_num, by obtain ⟨m, hm⟩ := hW.out; exact ⟨m + nq, by rw [hm]; simp⟩⟩
      case measure => simp [intOf]; omega
    · go_wp2_with fail
      go_ret
      exact ⟨rfl, hW.out⟩
end Go.Proofs.YtlcljanibjdejaaGreat

namespace Go.Proofs.YtlcljanibjdejaaGreat
open Go.RowKit

set_option maxHeartbeats 1000000 in
theorem isName_all (s : ByteArray) (w : World) (hs : s.size ≤ maxLen) :
    Calls Tryz.prog 231 #[.string s] w fun e w' => e = .returned (.bool (isNameL s.data.toList)) ∧ w' = w := by
  by_cases h : s.size ≤ 3000
  · exact isName_any s w h
  · have hf : isNameL s.data.toList = false := by
      unfold isNameL
      have : decide (s.data.toList.length ≤ 20) = false := by have := len_size s; simp; omega
      rw [this]
      simp
    have hne : s.toList.isEmpty = false := by
      rw [ByteArray.toList_eq]
      have := len_size s
      cases hq : s.data.toList with
      | nil => rw [hq] at this; simp at this; omega
      | cons a b => rfl
    rw [hf]
    clear hf
    unfold maxLen at hs
    have hg : decide ((20 : Int) < (s.size : Int)) = true := by simp; omega
    go_enter Tryz.func231, Tryz.ntmps231
    go_wp2_with fail
    go_ret
    exact ⟨rfl, rfl⟩
end Go.Proofs.YtlcljanibjdejaaGreat
