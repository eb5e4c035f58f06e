/- A reader of markup, its text that isn't taken yet and its tokens: Rd; tagName, tagBegins. -/
import Derived.Test.YtngojdajamgababGreatAttrs
import Derived.Deep.Onto
namespace Go.Proofs.YtngojdajamgababGreat
open Go.RowKit Go.Maps

structure Tok where
  kind : Int
  name : List UInt8
  attrs : List Pair
  text : List UInt8
deriving DecidableEq

def tokCells (p : Tok × Value) : List Value := [.int .i64 p.1.kind, .string ⟨p.1.name.toArray⟩, p.2, .string ⟨p.1.text.toArray⟩]
def outCells (l : List (Tok × Value)) : List Value := l.flatMap tokCells
theorem outCells_add (l : List (Tok × Value)) (p : Tok × Value) : outCells (l ++ [p]) = outCells l ++ tokCells p := by simp [outCells]

/-- Attributes of a token lie in the row that its slice names. -/
def HasAttrs (w : World) (B : Nat) (p : Tok × Value) : Prop := w.ownsRow B 83 2 p.2 p.1.attrs.length (pairCells p.1.attrs)

structure Rd (w : World) (B r b : Nat) (rawv outv : Value) (raw : List UInt8) (l : List (Tok × Value)) : Prop where
  reader : IsReader w r b rawv outv
  raw : w.ownsRow B 5 1 rawv raw.length (Lib.byteCells raw)
  out : w.ownsRow B 48 4 outv l.length (outCells l)
  attrs : ∀ p ∈ l, HasAttrs w B p
  max : HasMax w
  pos : 0 < B
  hr : B ≤ r
  hb : B ≤ b

theorem block_ne {w : World} {B : Nat} {e : TypeId} {z : Nat} {v : Value} {n : Nat} {xs : List Value} (h : w.ownsRow B e z v n xs) {b : Nat} {cs : Array Value} {t : TypeId} (hT : w.heap[b]? = some (.cells cs t (0, 0))) (he : e ≠ t) : v.ownBlock ≠ some b := by
  intro hv
  rcases h.2 with ⟨rfl, _⟩ | ⟨g, cap, cur, rfl, _, hg, _⟩
  · simp [Value.ownBlock] at hv
  · simp only [Value.ownBlock, Option.some.injEq] at hv
    rw [hv, hT] at hg
    simp at hg
    exact he hg.2.symm

theorem rows_apart {w : World} {B : Nat} {e : TypeId} {z : Nat} {v : Value} {n : Nat} {xs : List Value} (h : w.ownsRow B e z v n xs) {B' : Nat} {e' : TypeId} {z' : Nat} {v' : Value} {n' : Nat} {xs' : List Value} (h' : w.ownsRow B' e' z' v' n' xs') (he : e ≠ e') {g : Nat} (hg : v.ownBlock = some g) (hg' : v'.ownBlock = some g) : False := by
  rcases h'.2 with ⟨rfl, _⟩ | ⟨g', cap, cur, rfl, _, hb, _⟩
  · simp [Value.ownBlock] at hg'
  · simp only [Value.ownBlock, Option.some.injEq] at hg'
    subst hg'
    exact block_ne h hb he hg

/-- What is not touched stays. -/
theorem Rd.keeps {w w' : World} {B r b : Nat} {rawv outv : Value} {raw : List UInt8} {l : List (Tok × Value)} {S : List Nat} (h : Rd w B r b rawv outv raw l) (hk : Keeps S w w') (hr : r ∉ S) (hraw : ∀ g, rawv.ownBlock = some g → g ∉ S) (hout : ∀ g, outv.ownBlock = some g → g ∉ S)
    (hat : ∀ p ∈ l, ∀ g, p.2.ownBlock = some g → g ∉ S) (h0 : 0 ∉ S) : Rd w' B r b rawv outv raw l :=
  ⟨h.reader.keeps hk hr, hk.owns h.raw hraw, hk.owns h.out hout, fun p hp => hk.owns (h.attrs p hp) (hat p hp), h.max.keeps hk h0, h.pos, h.hr, h.hb⟩

theorem Rd.keepsNil {w w' : World} {B r b : Nat} {rawv outv : Value} {raw : List UInt8} {l : List (Tok × Value)} (h : Rd w B r b rawv outv raw l) (hk : Keeps [] w w') : Rd w' B r b rawv outv raw l :=
  h.keeps hk List.not_mem_nil (fun _ _ => List.not_mem_nil) (fun _ _ => List.not_mem_nil) (fun _ _ _ _ => List.not_mem_nil) List.not_mem_nil

theorem Rd.keepsText {w w' : World} {B r b : Nat} {rawv outv : Value} {raw : List UInt8} {l : List (Tok × Value)} (h : Rd w B r b rawv outv raw l) {s : ByteArray} {k : Nat} (hT : IsText w b s k) (hk : Keeps [b] w w') : Rd w' B r b rawv outv raw l := by
  refine h.keeps hk (by simpa using h.reader.ne hT) (fun g hg => ?_) (fun g hg => ?_) (fun p hp g hg => ?_) ?_
  · intro hm; simp at hm; subst hm; exact block_ne h.raw hT (by decide) hg
  · intro hm; simp at hm; subst hm; exact block_ne h.out hT (by decide) hg
  · intro hm; simp at hm; subst hm; exact block_ne (h.attrs p hp) hT (by decide) hg
  · have := h.pos; have := h.hb; simp; omega

theorem Rd.ne {w : World} {B r b : Nat} {rawv outv : Value} {raw : List UInt8} {l : List (Tok × Value)} (h : Rd w B r b rawv outv raw l) {s : ByteArray} {k : Nat} (hT : IsText w b s k) : r ≠ b := h.reader.ne hT
theorem Rd.b0 {w : World} {B r b : Nat} {rawv outv : Value} {raw : List UInt8} {l : List (Tok × Value)} (h : Rd w B r b rawv outv raw l) : 0 ∉ [b] := by
  have := h.pos; have := h.hb; simp; omega

/-! ### tagName -/
theorem enters100 : Enters 100 := enters_of Tryz.func100 (by kernel_rfl) (by kernel_rfl)

theorem endOf_le {p l : List UInt8} {m : Nat} (h : endOf p l = some m) : m ≤ l.length + p.length := by
  unfold endOf at h
  split at h
  · simp at h
  · simp only [Option.some.injEq] at h
    have := index_le l p
    omega

/-- A mark at the head is met at once. -/
theorem endOf_here {p l : List UInt8} (h : Lib.hasPrefix l p = true) : endOf p l = some p.length := by
  have e : Lib.index l p = 0 := by
    unfold Lib.index
    cases l with
    | nil => simp_all [Lib.hasPrefix]
    | cons c l =>
      have h' : p <+: c :: l := by unfold Lib.hasPrefix at h; simpa using h
      simp [h']
  unfold endOf
  rw [e]
  simp

set_option maxHeartbeats 1000000 in
/-- tagName where the mark stands. -/
theorem tagName_any (r b : Nat) (rawv outv : Value) (s p : ByteArray) (k : Nat) (w : World) (hs : s.size ≤ 3000) (hp : p.size ≤ 3000) (hR : IsReader w r b rawv outv) (hT : IsText w b s k) (hM : HasMax w) (hk : k + p.size ≤ s.size) (hst : stAt s k p.data.toList = true)
    (N : List UInt8) (hN : (s.data.toList.drop (k + p.size)).takeWhile tagN = N) :
    Calls Tryz.prog 89 #[.pointer (some ⟨r, 0, none⟩), .string p] w fun e w' =>
      e = .returned (.string ⟨(lowerL N).toArray⟩) ∧ IsText w' b s (k + p.size + N.length) ∧ Keeps [b] w w' := by
  have hne := hR.ne hT
  have c0 := hR.cell0
  have hend : endOf p.data.toList (s.data.toList.drop k) = some p.data.toList.length := endOf_here hst
  have hpt := hide (passTo_any b s k p w hs hp hT (by omega) hM)
  rw [hend] at hpt
  have hps := hide (fun w hT => pass_of 100 tagN enters100 tagN_any b s (k + p.size) w hs hT hk)
  have hLl := takeWhile_le tagN s (k + p.size) hk
  rw [hN] at hps hLl
  have hlow := hide (fun w => lower_any ⟨N.toArray⟩ w (by rw [str_size]; omega))
  rw [str_list] at hlow
  generalize lowerL N = NN at *
  clear hN hend hst
  go_enter Tryz.func89, Tryz.ntmps89
  go_wp2_with fail
  refine hpt.out.mono ?_
  rintro e w1 ⟨⟨m, hm, rfl, hT1⟩ | ⟨hm, _⟩, hk1⟩
  · simp only [Option.some.injEq] at hm
    have hT1' : IsText w1 b s (k + p.size) := hT1.at (by rw [← hm]; rfl)
    clear hT1 hm hpt
    have hR1 := hR.keeps hk1 (by simpa using hne)
    have c1 := hR1.cell0
    go_wp2_with fail
    refine (hps.out _ hT1').mono ?_
    rintro e w2 ⟨rfl, hT2, hk2⟩
    go_wp2_with fail
    refine (hlow.out _).mono ?_
    rintro e w3 ⟨rfl, hk3⟩
    go_wp2_with fail
    go_ret
    exact ⟨rfl, hT2.keeps hk3 List.not_mem_nil, (hk1.trans hk2).trans (hk3.to (by simp))⟩
  · simp at hm

set_option maxHeartbeats 1000000 in
theorem tagBegins_any (r b : Nat) (rawv outv : Value) (s p : ByteArray) (k : Nat) (w : World) (hs : s.size ≤ 3000) (hp : p.size ≤ 3000) (hR : IsReader w r b rawv outv) (hT : IsText w b s k) (hk : k ≤ s.size) :
    Calls Tryz.prog 67 #[.pointer (some ⟨r, 0, none⟩), .string p] w fun e w' =>
      e = .returned (.bool (stAt s k p.data.toList && (decide (k + p.size < s.size) && letterB (byteAt s (k + p.size))))) ∧ IsText w' b s k ∧ Keeps [] w w' := by
  have c0 := hR.cell0
  have hbg := hide (begins_any b s k p w hT hk)
  have hah := hide (fun w hT => ahead_any b s k p.size w hs hT hk hp)
  generalize (decide (k + p.size < s.size) && letterB (byteAt s (k + p.size))) = q at *
  cases hst : stAt s k p.data.toList
  · rw [hst] at hbg
    rw [Bool.false_and]
    go_enter Tryz.func67, Tryz.ntmps67
    go_wp2_with fail
    refine hbg.out.mono ?_
    rintro e w1 ⟨rfl, n, rfl⟩
    go_wp2_with fail
    go_ret
    exact ⟨rfl, hT, (Keeps.refl _ _).drewN _⟩
  · rw [hst] at hbg
    rw [Bool.true_and]
    go_enter Tryz.func67, Tryz.ntmps67
    go_wp2_with fail
    refine hbg.out.mono ?_
    rintro e w1 ⟨rfl, n, rfl⟩
    have c1 : (w.drewN n).cell? ⟨r, 0, none⟩ = some (.pointer (some ⟨b, 0, none⟩)) := c0
    go_wp2_with fail
    refine (hah.out (w.drewN n) hT).mono ?_
    rintro e w2 ⟨rfl, n2, rfl⟩
    go_wp2_with fail
    go_ret
    exact ⟨rfl, hT, (Keeps.refl _ _).drewN _⟩
end Go.Proofs.YtngojdajamgababGreat
