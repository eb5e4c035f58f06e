/- Tokens, as the document's answer reads them: the functions, and its memory. What is text ends: TokensOf's closure, of the document's answer. What stands at a <, as the document's answer tells it. -/
import Derived.Test.YtaeblkmkpfklkaaAttrsAtRef
import Derived.Test.YtaeblkmkpfklkaaRead
namespace Go.Proofs.Ytaeblkmkpfklkaa
open Go.RowKit Go.Maps

theorem encodeR_ne (n : Nat) : Lib.encodeRune n ≠ [] := by
  unfold Lib.encodeRune Lib.encodeRuneZ
  rw [Ne, List.map_eq_nil_iff]
  repeat' split
  all_goals simp

theorem takeOneR_ne (l : List UInt8) (h : l ≠ []) : (takeOne l).1 ≠ [] := by
  unfold takeOne
  split
  · split
    · exact encodeR_ne _
    · exact encodeR_ne _
  · cases l with
    | nil => exact absurd rfl h
    | cons a l => simp

theorem takeR_ne {l : List UInt8} (h : l ≠ []) : (takeL l).1 ≠ [] := by
  cases l with
  | nil => exact absurd rfl h
  | cons c l =>
    by_cases hc : c = 38
    · rw [takeL_and c l hc]
      intro e
      exact takeOneR_ne (c :: l) (by simp) (List.append_eq_nil_iff.1 e).1
    · rw [takeL_other c l hc]
      simp

/-- How many rounds are left does not matter, where they are enough. -/
theorem readAt_fuel (l : List UInt8) : ∀ (f f' k : Nat) (raw : List UInt8) (out : List Tok), l.length + 1 ≤ f + k → l.length + 1 ≤ f' + k → readAt l f k raw out = readAt l f' k raw out
  | 0, 0, _, _, _, _, _ => rfl
  | 0, f' + 1, k, raw, out, h, _ => by rw [readAt_end (by omega)]; rfl
  | f + 1, 0, k, raw, out, _, h => by rw [readAt_end (by omega)]; rfl
  | f + 1, f' + 1, k, raw, out, h, h' => by
    by_cases hk : l.length ≤ k
    · rw [readAt_end hk, readAt_end hk]
    · cases hp : pieceL l k raw out with
      | none =>
        rw [readAt_none (by omega) hp, readAt_none (by omega) hp]
        exact readAt_fuel l f f' _ _ _ (by omega) (by omega)
      | some t =>
        obtain ⟨k', raw', out'⟩ := t
        have hb := (pieceL_bound hp (by omega)).1
        rw [readAt_some (by omega) hp, readAt_some (by omega) hp]
        exact readAt_fuel l f f' _ _ _ (by omega) (by omega)

/-- What is read from a place on. -/
def Rds (l : List UInt8) (k : Nat) (raw : List UInt8) (out : List Tok) (R : List Tok) : Prop := ∀ f, l.length + 1 ≤ f + k → readAt l f k raw out = R

theorem Rds.start (l : List UInt8) : Rds l 0 [] [] (readL l) := fun f hf => readAt_fuel l f (l.length + 1) 0 [] [] hf (by omega)
theorem Rds.done {l : List UInt8} {k : Nat} {raw : List UInt8} {out R : List Tok} (h : Rds l k raw out R) (hk : l.length ≤ k) : out ++ endT raw = R := by
  have := h (l.length + 1) (by omega)
  rwa [readAt_end hk] at this
theorem Rds.piece {l : List UInt8} {k : Nat} {raw : List UInt8} {out R : List Tok} (h : Rds l k raw out R) (hk : k < l.length) {k' : Nat} {raw' : List UInt8} {out' : List Tok} (hp : pieceL l k raw out = some (k', raw', out')) : Rds l k' raw' out' R := fun f hf => by
  have hb := (pieceL_bound hp hk).1
  have := h (l.length + 1) (by omega)
  rw [readAt_some hk hp] at this
  rw [← this]
  exact readAt_fuel l _ _ _ _ _ hf (by omega)
theorem Rds.none {l : List UInt8} {k : Nat} {raw : List UInt8} {out R : List Tok} (h : Rds l k raw out R) (hk : k < l.length) (hp : pieceL l k raw out = none) : Rds l l.length (raw ++ l.drop k) out R := fun f hf => by
  have := h (l.length + 1) (by omega)
  rw [readAt_none hk hp] at this
  rw [← this]
  exact readAt_fuel l _ _ _ _ _ hf (by omega)

theorem stL_no {l : List UInt8} {k : Nat} (hk : k < l.length) (h : l[k] ≠ 60) (p : List UInt8) : stL l k (60 :: p) = false := by
  unfold stL
  rw [List.drop_eq_getElem_cons hk]
  simp only [List.isPrefixOf, Bool.and_eq_false_iff]
  left
  simpa using fun e => h e.symm
theorem piece_plainR {l : List UInt8} {k : Nat} (hk : k < l.length) (h : l[k] ≠ 60) (raw : List UInt8) (out : List Tok) : pieceL l k raw out = textL l k raw out := by
  unfold pieceL tagL
  simp [stL_no hk h]

/-- A byte of text may be taken by itself. -/
theorem Rds.byte {l : List UInt8} {k : Nat} {raw : List UInt8} {out R : List Tok} (h : Rds l k raw out R) (hk : k < l.length) (hp : pieceL l k raw out = textL l k raw out) : Rds l (k + 1) (raw ++ [l[k]]) out R := by
  have e0 : l.getD k 0 = l[k] := by simp [List.getD, List.getElem?_eq_getElem hk]
  have h1 := h.piece hk (hp.trans (by unfold textL; rw [e0]))
  by_cases hk2 : k + 1 < l.length
  · by_cases hc : l[k + 1] = 60
    · have e : (l.drop (k + 1)).takeWhile noLt = [] := by
        rw [List.drop_eq_getElem_cons hk2, List.takeWhile_cons, if_neg (by simp [noLt, hc])]
      rw [e] at h1
      simpa using h1
    · have e : (l.drop (k + 1)).takeWhile noLt = l[k + 1] :: (l.drop (k + 1 + 1)).takeWhile noLt := by
        rw [List.drop_eq_getElem_cons hk2, List.takeWhile_cons, if_pos (by simpa [noLt] using hc)]
      intro f hf
      have e1 : l.getD (k + 1) 0 = l[k + 1] := by simp [List.getD, List.getElem?_eq_getElem hk2]
      have hp2 : pieceL l (k + 1) (raw ++ [l[k]]) out = some (k + 1 + 1 + ((l.drop (k + 1 + 1)).takeWhile noLt).length, (raw ++ [l[k]]) ++ [l[k + 1]] ++ (l.drop (k + 1 + 1)).takeWhile noLt, out) := by
        rw [piece_plainR hk2 hc]; unfold textL; rw [e1]
      obtain ⟨f', rfl⟩ : ∃ f', f = f' + 1 := ⟨f - 1, by omega⟩
      rw [readAt_some hk2 hp2]
      have h2 := h1 f' (by rw [e, List.length_cons]; omega)
      rw [e] at h2
      rw [← h2]
      simp only [List.length_cons, List.append_assoc, List.cons_append, List.nil_append]
      congr 1
      omega
  · have e : (l.drop (k + 1)).takeWhile noLt = [] := by rw [List.drop_eq_nil_of_le (by omega)]; rfl
    rw [e] at h1
    simpa using h1

/-- A mark's end, by its place. -/
theorem endOf_next (p l : List UInt8) (k : Nat) : endOf p (l.drop k) = if nextIR l p k < 0 then none else some ((nextIR l p k).toNat - k + p.length) := by
  unfold endOf nextIR
  have := Lib.index_ge (l.drop k) p
  by_cases h : Lib.index (l.drop k) p < 0
  · rw [if_pos h, if_pos h]
    simp
  · rw [if_neg h, if_neg h, if_neg (by omega)]
    congr 2
    omega
theorem nextIR_neg {l p : List UInt8} {k : Nat} (h : nextIR l p k < 0) : nextIR l p k = -1 := by
  unfold nextIR at *
  split at h
  · rename_i hn; rw [if_pos hn]
  · omega

/-! ### The memory -/
structure Rf (w : World) (B bt bo : Nat) (outv : Value) (raw : List UInt8) (l : List (Tok × Value)) : Prop where
  tx : w.heap[bt]? = some (.cells #[.string ⟨raw.toArray⟩] 9 (0, 0))
  ob : w.heap[bo]? = some (.cells #[outv] 32 (0, 0))
  out : w.ownsRow B 43 4 outv l.length (outCells l)
  attrs : ∀ p ∈ l, HasAttrs w B p
  hbt : bt < B
  hbo : bo < B
  ne : bt ≠ bo

theorem Rf.keeps {w w' : World} {B bt bo : Nat} {outv : Value} {raw : List UInt8} {l : List (Tok × Value)} {S : List Nat} (h : Rf w B bt bo outv raw l) (hk : Keeps S w w') (h1 : bt ∉ S) (h2 : bo ∉ S) (hout : ∀ g, outv.ownBlock = some g → g ∉ S) (hat : ∀ p ∈ l, ∀ g, p.2.ownBlock = some g → g ∉ S) : Rf w' B bt bo outv raw l :=
  ⟨by rw [hk.block bt (lt_of_block h.tx) h1]; exact h.tx, by rw [hk.block bo (lt_of_block h.ob) h2]; exact h.ob, hk.owns h.out hout, fun p hp => hk.owns (h.attrs p hp) (hat p hp), h.hbt, h.hbo, h.ne⟩
theorem Rf.keepsNil {w w' : World} {B bt bo : Nat} {outv : Value} {raw : List UInt8} {l : List (Tok × Value)} (h : Rf w B bt bo outv raw l) (hk : Keeps [] w w') : Rf w' B bt bo outv raw l :=
  h.keeps hk List.not_mem_nil List.not_mem_nil (fun _ _ => List.not_mem_nil) (fun _ _ _ _ => List.not_mem_nil)
/-- A block that is new is none of these. -/
theorem Rf.keepsNew {w0 w w' : World} {B bt bo : Nat} {outv : Value} {raw : List UInt8} {l : List (Tok × Value)} (h0 : Rf w0 B bt bo outv raw l) (h : Rf w B bt bo outv raw l) {g : Nat} (hg : w0.heap.size ≤ g) (hk : Keeps [g] w w') : Rf w' B bt bo outv raw l := by
  refine h.keeps hk ?_ ?_ (fun b hb => ?_) (fun p hp b hb => ?_)
  · have := lt_of_block h0.tx; simp; omega
  · have := lt_of_block h0.ob; simp; omega
  · have := (h0.out.lt b hb).2; simp; omega
  · have := ((h0.attrs p hp).lt b hb).2; simp; omega

theorem one_cell {w : World} {b : Nat} {v : Value} {t : TypeId} (h : w.heap[b]? = some (.cells #[v] t (0, 0))) : w.cell? ⟨b, 0, none⟩ = some v := by
  simp [World.cell?]; simp [h]
theorem one_free {w : World} {b : Nat} {v : Value} {t : TypeId} (h : w.heap[b]? = some (.cells #[v] t (0, 0))) : w.frozen? ⟨b, 0, none⟩ = false := by
  simp [World.frozen?]; simp [h]
theorem one_set {w : World} {b : Nat} {v : Value} {t : TypeId} (h : w.heap[b]? = some (.cells #[v] t (0, 0))) (u : Value) : (w.setCell ⟨b, 0, none⟩ u).heap[b]? = some (.cells #[u] t (0, 0)) := by
  simp [World.setCell, Array.getElem?_modify]; simp [h]

theorem Rf.set {w : World} {B bt bo : Nat} {outv : Value} {raw : List UInt8} {l : List (Tok × Value)} (h : Rf w B bt bo outv raw l) (x : List UInt8) : Rf (w.setCell ⟨bt, 0, none⟩ (.string ⟨x.toArray⟩)) B bt bo outv x l := by
  have hk : Keeps [bt] w (w.setCell ⟨bt, 0, none⟩ (.string ⟨x.toArray⟩)) := (Keeps.refl [bt] w).setCell (.inl (by simp)) _
  refine ⟨one_set h.tx _, by rw [hk.block bo (lt_of_block h.ob) (by simpa using h.ne.symm)]; exact h.ob, hk.owns h.out (fun g hg hm => ?_), fun p hp => hk.owns (h.attrs p hp) (fun g hg hm => ?_), h.hbt, h.hbo, h.ne⟩
  · have := (h.out.lt g hg).1; have := h.hbt; simp at hm; omega
  · have := ((h.attrs p hp).lt g hg).1; have := h.hbt; simp at hm; omega

theorem Rf.grow {w w3 : World} {B bt bo : Nat} {outv : Value} {raw : List UInt8} {l : List (Tok × Value)} (h : Rf w B bt bo outv raw l) (hk : Keeps outv.ownBlock.toList w w3) {v3 : Value} {p : Tok × Value} (ho : w3.ownsRow B 43 4 v3 (l.length + 1) (outCells l ++ tokCells p)) (hp : HasAttrs w3 B p) :
    Rf (w3.setCell ⟨bo, 0, none⟩ v3) B bt bo v3 raw (l ++ [p]) := by
  have hbt := h.hbt
  have hbo := h.hbo
  have hne := h.ne
  have t3 : w3.heap[bt]? = some (.cells #[.string ⟨raw.toArray⟩] 9 (0, 0)) := by
    rw [hk.block bt (lt_of_block h.tx) (fun hm => by have := (h.out.lt bt (by simpa using hm)).1; omega)]; exact h.tx
  have o3 : w3.heap[bo]? = some (.cells #[outv] 32 (0, 0)) := by
    rw [hk.block bo (lt_of_block h.ob) (fun hm => by have := (h.out.lt bo (by simpa using hm)).1; omega)]; exact h.ob
  have hat3 : ∀ q ∈ l, HasAttrs w3 B q := fun q hq => hk.owns (h.attrs q hq) (fun g hg hm => rows_apart (h.attrs q hq) h.out (by decide) hg (by simpa using hm))
  have hk3 : Keeps [bo] w3 (w3.setCell ⟨bo, 0, none⟩ v3) := (Keeps.refl [bo] w3).setCell (.inl (by simp)) _
  have far : ∀ {e z n xs v}, w3.ownsRow B e z v n xs → ∀ g, v.ownBlock = some g → g ∉ [bo] := fun hv g hg hm => by have := (hv.lt g hg).1; simp at hm; omega
  refine ⟨by rw [hk3.block bt (lt_of_block t3) (by simpa using hne)]; exact t3, one_set o3 _, ?_, ?_, hbt, hbo, hne⟩
  · rw [outCells_add, List.length_append]
    exact hk3.owns ho (far ho)
  · intro q hq
    rcases List.mem_append.1 hq with hq | hq
    · exact hk3.owns (hat3 q hq) (far (hat3 q hq))
    · simp at hq
      subst hq
      exact hk3.owns hp (far hp)
theorem Rf.toks {w : World} {B bt bo : Nat} {outv : Value} {raw : List UInt8} {l : List (Tok × Value)} (h : Rf w B bt bo outv raw l) : IsToks w B outv (l.map (·.1)) := ⟨l, rfl, h.out, h.attrs⟩
end Go.Proofs.Ytaeblkmkpfklkaa

namespace Go.Proofs.Ytaeblkmkpfklkaa
open Go.RowKit Go.Maps

theorem enters40 : Enters 40 := enters_of Try.func40 (by kernel_rfl) (by kernel_rfl)

set_option maxRecDepth 4000 in
set_option maxHeartbeats 4000000 in
theorem flush_any (w : World) (B bt bo : Nat) (outv : Value) (raw : List UInt8) (l : List (Tok × Value)) (h : Rf w B bt bo outv raw l) (hB : B ≤ w.heap.size) (hraw : raw.length ≤ 3000) (hl : l.length ≤ 100000) :
    Calls Try.prog 40 #[.pointer (some ⟨bt, 0, none⟩), .pointer (some ⟨bo, 0, none⟩)] w fun e w' =>
      e = .returned (.tuple #[]) ∧ ∃ outv', Rf w' B bt bo outv' [] (l ++ endToks raw) ∧ Keeps (bt :: bo :: outv.ownBlock.toList) w w' := by
  have htk := hide (fun w => takeOf_any ⟨raw.toArray⟩ w (by rw [str_size]; exact hraw))
  rw [str_list] at htk
  have c0 := one_cell h.tx
  obtain ⟨i0, hi, hz0, hz1, hz2⟩ := info_parts info43
  by_cases hne : raw = []
  · subst hne
    have e0 : endToks [] = [] := rfl
    rw [e0, List.append_nil]
    rw [show takeL [] = ([], true) from by kernel_rfl] at htk
    go_enter Try.func40, Try.ntmps40
    go_wp2_with fail
    refine (htk.out _).mono ?_
    rintro e w1 ⟨rfl, hk1⟩
    have h1 := h.keepsNil hk1
    have d0 := one_cell h1.tx
    have f0 := one_free h1.tx
    clear c0
    go_wp2_with fail
    go_end0
    exact ⟨rfl, _, h1.set [], (hk1.to (by simp)).setCell (.inl (by simp)) _⟩
  · have hT := takeR_ne hne
    have e0 : endToks raw = [(textTok (takeL raw).1, .slice none 0 0)] := by unfold endToks; rw [if_neg hne]
    rw [e0]
    obtain ⟨T, TB, hTT⟩ : ∃ T TB, takeL raw = (T, TB) := ⟨_, _, rfl⟩
    rw [hTT] at hT htk ⊢
    simp only at hT htk ⊢
    have hTe : T.isEmpty = false := by simpa using hT
    clear hTT hT hne e0
    obtain ⟨o, c, rfl⟩ := row_form h.out
    go_enter Try.func40, Try.ntmps40
    go_wp2_with fail
    refine (htk.out _).mono ?_
    rintro e w1 ⟨rfl, hk1⟩
    have h1 := h.keepsNil hk1
    have d1 := one_cell h1.ob
    have d1a : ∀ o, (w1.alloc o).cell? ⟨bo, 0, none⟩ = some (.slice _ l.length c) := fun o => (cell_past (a := ⟨bo, 0, none⟩) (lt_of_block h1.ob) o).trans d1
    have hB1 := Nat.le_trans hB hk1.size
    clear c0
    go_wp2_with (at_builtin; refine wpList_append_own _ rfl _ _ 32 rfl B 43 i0 _ 4 64 Try.underlying32 hi hz0 hz1 hz2 (by kernel_rfl) (by decide) _ _ _ rfl (h1.out.alloc _) ⟨w1.heap.size, 0, none⟩ 1 1 (tokCells (textTok T, .slice none 0 0)) rfl rfl ?c1 ?c2 ?c3 ?c4 ?c5 ?_)
    case c1 => exact lit_cells w1 _ 43
    case c2 => exact one_cells rfl
    case c3 => unfold maxLen; omega
    case c4 => omega
    case c5 => simp; omega
    intro v3 w3 ho3 hg3 _
    obtain ⟨ov, cv, rfl⟩ := row_form ho3
    have hk3 : Keeps (Value.slice o l.length c).ownBlock.toList w1 w3 := ((Keeps.refl _ w1).alloc _).grown hg3 fun i e => .inl (by simp [e])
    have hr := h1.grow hk3 ho3 (World.ownsRow_nil _ _ _ _)
    have o3 : w3.heap[bo]? = some (.cells #[.slice o l.length c] 32 (0, 0)) := by
      have := h1.hbo
      rw [hk3.block bo (lt_of_block h1.ob) (fun hm => by have := (h1.out.lt bo (by simpa using hm)).1; omega)]; exact h1.ob
    have x0 := one_cell o3
    have x1 := one_free o3
    have x2 := one_cell hr.tx
    have x3 := one_free hr.tx
    have hkf : Keeps (bt :: bo :: (Value.slice o l.length c).ownBlock.toList) w (w3.setCell ⟨bo, 0, none⟩ (.slice ov (l.length + 1) cv)) :=
      ((hk1.to (by simp)).trans (hk3.to (fun i hi => by simp at hi ⊢; exact .inr (.inr hi)))).setCell (.inl (by simp)) _
    go_wp2_with fail
    go_end0
    exact ⟨rfl, _, hr.set [], hkf.setCell (.inl (by simp)) _⟩
end Go.Proofs.Ytaeblkmkpfklkaa

namespace Go.Proofs.Ytaeblkmkpfklkaa
open Go.RowKit Go.Maps

/-- What the document's answer comes to at a <: the place behind (-1: no end; -2: nothing stands here), and the token. -/
def Sw (l : List UInt8) (k : Nat) (raw : List UInt8) (out : List Tok) (z : Int) (t : Tok) : Prop :=
  (z = -1 ∧ pieceL l k raw out = none) ∨ (z = -2 ∧ pieceL l k raw out = textL l k raw out) ∨
  (∃ k' : Nat, z = k' ∧ t.kind = 0 ∧ pieceL l k raw out = some (k', raw, out)) ∨
  (∃ k' : Nat, z = k' ∧ (t.kind = 2 ∨ t.kind = 3) ∧ t.text = [] ∧ t.name.length ≤ 3000 ∧ pieceL l k raw out = some (k', if isNameL t.name = true then ([], out ++ endT raw ++ [t]) else (raw, out)))

theorem tagL_open (s : ByteArray) (k : Nat) (hk : k < s.size) (h : s[k] = 60) : tagL s.data.toList k [60] = (decide (k + 1 < s.size) && letterB (byteAt s (k + 1))) := by
  have e : stL s.data.toList k [60] = true := by
    unfold stL
    rw [drop_get s k hk, h]
    simp
  unfold tagL
  rw [e, len_size]
  rfl
theorem tagL_close (s : ByteArray) (k : Nat) : tagL s.data.toList k [60, 47] = (stAt s k [60, 47] && (decide (k + 2 < s.size) && letterB (byteAt s (k + 2)))) := by
  unfold tagL
  rw [len_size]
  rfl

theorem run_list (s : ByteArray) (k k2 : Nat) (h : runTo tagN s k = k2) : (s.data.toList.drop k).takeWhile tagN = (s.extract k k2).data.toList := by rw [← h]; exact runTo_list tagN s k
theorem run_len (s : ByteArray) (k k2 : Nat) (h : runTo tagN s k = k2) : k + ((s.data.toList.drop k).takeWhile tagN).length = k2 := h

theorem sw_open {s : ByteArray} {k k2 : Nat} {raw n : List UInt8} {out : List Tok} (hO : tagL s.data.toList k [60] = true) (hk2 : runTo tagN s (k + 1) = k2) (hn : lowerL (s.extract (k + 1) k2).data.toList = n) (hnl : n.length ≤ 3000)
    {a : List Pair} {k' : Nat} (ha : attrsAt s.data.toList (s.size + 1) k2 [] = some (a, k')) : Sw s.data.toList k raw out ((k' + 1 : Nat) : Int) ⟨2, n, a, []⟩ := by
  refine .inr (.inr (.inr ⟨k' + 1, rfl, .inl rfl, rfl, hnl, ?_⟩))
  unfold pieceL openL
  rw [if_pos hO, len_size, run_len s _ _ hk2, run_list s _ _ hk2, hn, ha]
theorem sw_open0 {s : ByteArray} {k k2 : Nat} {raw : List UInt8} {out : List Tok} (hO : tagL s.data.toList k [60] = true) (hk2 : runTo tagN s (k + 1) = k2)
    (ha : attrsAt s.data.toList (s.size + 1) k2 [] = none) (t : Tok) : Sw s.data.toList k raw out (-1) t := by
  refine .inl ⟨rfl, ?_⟩
  unfold pieceL openL
  rw [if_pos hO, len_size, run_len s _ _ hk2, ha]
theorem sw_close {s : ByteArray} {k k2 : Nat} {raw n : List UInt8} {out : List Tok} (hO : tagL s.data.toList k [60] = false) (hC : tagL s.data.toList k [60, 47] = true) (hk2 : runTo tagN s (k + 2) = k2) (hn : lowerL (s.extract (k + 2) k2).data.toList = n) (hnl : n.length ≤ 3000)
    {m : Nat} (hE : nextIR s.data.toList [62] k2 = m) (hm : k2 ≤ m) : Sw s.data.toList k raw out ((m + 1 : Nat) : Int) ⟨3, n, [], []⟩ := by
  refine .inr (.inr (.inr ⟨m + 1, rfl, .inr rfl, rfl, hnl, ?_⟩))
  unfold pieceL closeL
  rw [if_neg (by simp [hO]), if_pos hC, run_len s _ _ hk2, run_list s _ _ hk2, hn, endOf_next, hE, if_neg (by omega)]
  simp only [Int.toNat_natCast, List.length_cons, List.length_nil]
  congr 2
  omega
theorem sw_close0 {s : ByteArray} {k k2 : Nat} {raw : List UInt8} {out : List Tok} (hO : tagL s.data.toList k [60] = false) (hC : tagL s.data.toList k [60, 47] = true) (hk2 : runTo tagN s (k + 2) = k2)
    (hE : nextIR s.data.toList [62] k2 < 0) (t : Tok) : Sw s.data.toList k raw out (-1) t := by
  refine .inl ⟨rfl, ?_⟩
  unfold pieceL closeL
  rw [if_neg (by simp [hO]), if_pos hC, run_len s _ _ hk2, endOf_next, if_pos hE]
theorem sw_com {s : ByteArray} {k : Nat} {raw : List UInt8} {out : List Tok} (hO : tagL s.data.toList k [60] = false) (hC : tagL s.data.toList k [60, 47] = false) (h3 : stAt s k [60, 33, 45, 45] = true)
    {m : Nat} (hE : nextIR s.data.toList [45, 45, 62] (k + 2) = m) (hm : k + 2 ≤ m) {t : Tok} (ht : t.kind = 0) : Sw s.data.toList k raw out ((m + 3 : Nat) : Int) t := by
  refine .inr (.inr (.inl ⟨m + 3, rfl, ht, ?_⟩))
  unfold pieceL comL
  rw [if_neg (by simp [hO]), if_neg (by simp [hC]), if_pos (show stL s.data.toList k [60, 33, 45, 45] = true from h3), endOf_next, hE, if_neg (by omega)]
  simp only [Int.toNat_natCast, List.length_cons, List.length_nil]
  congr 2
  omega
theorem sw_com0 {s : ByteArray} {k : Nat} {raw : List UInt8} {out : List Tok} (hO : tagL s.data.toList k [60] = false) (hC : tagL s.data.toList k [60, 47] = false) (h3 : stAt s k [60, 33, 45, 45] = true)
    (hE : nextIR s.data.toList [45, 45, 62] (k + 2) < 0) (t : Tok) : Sw s.data.toList k raw out (-1) t := by
  refine .inl ⟨rfl, ?_⟩
  unfold pieceL comL
  rw [if_neg (by simp [hO]), if_neg (by simp [hC]), if_pos (show stL s.data.toList k [60, 33, 45, 45] = true from h3), endOf_next, if_pos hE]
theorem sw_decl {s : ByteArray} {k : Nat} {raw : List UInt8} {out : List Tok} (hO : tagL s.data.toList k [60] = false) (hC : tagL s.data.toList k [60, 47] = false) (h3 : stAt s k [60, 33, 45, 45] = false)
    (h4 : (stAt s k [60, 33] || (stAt s k [60, 63] || stAt s k [60, 47])) = true)
    {m : Nat} (hE : nextIR s.data.toList [62] k = m) (hm : k ≤ m) {t : Tok} (ht : t.kind = 0) : Sw s.data.toList k raw out ((m + 1 : Nat) : Int) t := by
  refine .inr (.inr (.inl ⟨m + 1, rfl, ht, ?_⟩))
  unfold pieceL declL
  rw [if_neg (by simp [hO]), if_neg (by simp [hC]), if_neg (by rw [show stL s.data.toList k [60, 33, 45, 45] = false from h3]; simp), if_pos (show (stL s.data.toList k [60, 33] || (stL s.data.toList k [60, 63] || stL s.data.toList k [60, 47])) = true from h4), endOf_next, hE, if_neg (by omega)]
  simp only [Int.toNat_natCast, List.length_cons, List.length_nil]
  congr 2
  omega
theorem sw_decl0 {s : ByteArray} {k : Nat} {raw : List UInt8} {out : List Tok} (hO : tagL s.data.toList k [60] = false) (hC : tagL s.data.toList k [60, 47] = false) (h3 : stAt s k [60, 33, 45, 45] = false)
    (h4 : (stAt s k [60, 33] || (stAt s k [60, 63] || stAt s k [60, 47])) = true) (hE : nextIR s.data.toList [62] k < 0) (t : Tok) : Sw s.data.toList k raw out (-1) t := by
  refine .inl ⟨rfl, ?_⟩
  unfold pieceL declL
  rw [if_neg (by simp [hO]), if_neg (by simp [hC]), if_neg (by rw [show stL s.data.toList k [60, 33, 45, 45] = false from h3]; simp), if_pos (show (stL s.data.toList k [60, 33] || (stL s.data.toList k [60, 63] || stL s.data.toList k [60, 47])) = true from h4), endOf_next, if_pos hE]
theorem sw_text {s : ByteArray} {k : Nat} {raw : List UInt8} {out : List Tok} (hO : tagL s.data.toList k [60] = false) (hC : tagL s.data.toList k [60, 47] = false) (h3 : stAt s k [60, 33, 45, 45] = false)
    (h4 : (stAt s k [60, 33] || (stAt s k [60, 63] || stAt s k [60, 47])) = false) (t : Tok) : Sw s.data.toList k raw out (-2) t := by
  refine .inr (.inl ⟨rfl, ?_⟩)
  unfold pieceL
  rw [if_neg (by simp [hO]), if_neg (by simp [hC]), if_neg (by rw [show stL s.data.toList k [60, 33, 45, 45] = false from h3]; simp), if_neg (by rw [show (stL s.data.toList k [60, 33] || (stL s.data.toList k [60, 63] || stL s.data.toList k [60, 47])) = false from h4]; simp)]

/-! ### A token in a block of its own -/
theorem tok_free {w : World} {g : Nat} {p : Tok × Value} (h : IsTok w g p) (j : Nat) : w.frozen? ⟨g, j, none⟩ = false := by
  simp [World.frozen?, IsTok] at h ⊢; simp [h]
theorem tok_set0 {w : World} {g : Nat} {t : Tok} {v : Value} (h : IsTok w g (t, v)) (x : Int) : IsTok (w.setCell ⟨g, 0, none⟩ (.int .i64 x)) g (⟨x, t.name, t.attrs, t.text⟩, v) := by
  simp [World.setCell, IsTok, Array.getElem?_modify] at h ⊢; simp [h]
theorem tok_set1 {w : World} {g : Nat} {t : Tok} {v : Value} (h : IsTok w g (t, v)) (x : List UInt8) : IsTok (w.setCell ⟨g, 1, none⟩ (.string ⟨x.toArray⟩)) g (⟨t.kind, x, t.attrs, t.text⟩, v) := by
  simp [World.setCell, IsTok, Array.getElem?_modify] at h ⊢; simp [h]
theorem tok_set2 {w : World} {g : Nat} {t : Tok} {v : Value} (h : IsTok w g (t, v)) (a : List Pair) (u : Value) : IsTok (w.setCell ⟨g, 2, none⟩ u) g (⟨t.kind, t.name, a, t.text⟩, u) := by
  simp [World.setCell, IsTok, Array.getElem?_modify] at h ⊢; simp [h]
theorem keeps_one {w : World} {g j : Nat} (u : Value) : Keeps [g] w (w.setCell ⟨g, j, none⟩ u) := (Keeps.refl [g] w).setCell (.inl (by simp)) _
end Go.Proofs.Ytaeblkmkpfklkaa
