/- A reader of markup, its text that isn't taken yet and its tokens: Rd; tagName, tagBegins. endText and put. put, openTag, closeTag. openTag, closeTag. piece: a tag, a comment, or text. piece, where it is a declaration, or text. -/
import Derived.Test.YtlcljanibjdejaaGreatSo03
import Derived.Deep.Onto
import Derived.Maps.AppendAt
namespace Go.Proofs.YtlcljanibjdejaaGreat
open Go.RowKit Go.Maps
structure Tok where
  kind : Int
  name : List UInt8
  attrs : List Pair
  text : List UInt8
deriving DecidableEq
def tokCells (p : Tok × Value) : List Value := [.int .i64 p.1.kind, .string ⟨p.1.name.toArray⟩, p.2, .string ⟨p.1.text.toArray⟩]
def outCells (l : List (Tok × Value)) : List Value := l.flatMap tokCells
theorem outCells_add (l : List (Tok × Value)) (p : Tok × Value) : outCells (l ++ [p]) = outCells l ++ tokCells p := by simp [outCells]
/-- Attributes of a token lie in the row that its slice names. -/
def HasAttrs (w : World) (B : Nat) (p : Tok × Value) : Prop := w.ownsRow B 52 2 p.2 p.1.attrs.length (pairCells p.1.attrs)
structure Rd (w : World) (B r b : Nat) (rawv outv : Value) (raw : List UInt8) (l : List (Tok × Value)) : Prop where
  reader : IsReader w r b rawv outv
  raw : w.ownsRow B 5 1 rawv raw.length (Lib.byteCells raw)
  out : w.ownsRow B 117 4 outv l.length (outCells l)
  attrs : ∀ p ∈ l, HasAttrs w B p
  max : HasMax w
  pos : 0 < B
  hr : B ≤ r
  hb : B ≤ b
theorem block_ne {w : World} {B : Nat} {e : TypeId} {z : Nat} {v : Value} {n : Nat} {xs : List Value} (h : w.ownsRow B e z v n xs) {b : Nat} {cs : Array Value} {t : TypeId} (hT : w.heap[b]? = some (.cells cs t (0, 0))) (he : e ≠ t) : v.ownBlock ≠ some b := by
  intro hv
  rcases h.2 with ⟨rfl, _⟩ | ⟨g, cap, cur, rfl, _, hg, _⟩
  · simp [Value.ownBlock] at hv
  · simp only [Value.ownBlock, Option.some.injEq] at hv
    rw [hv, hT] at hg
    simp at hg
    exact he hg.2.symm
theorem rows_apart {w : World} {B : Nat} {e : TypeId} {z : Nat} {v : Value} {n : Nat} {xs : List Value} (h : w.ownsRow B e z v n xs) {B' : Nat} {e' : TypeId} {z' : Nat} {v' : Value} {n' : Nat} {xs' : List Value} (h' : w.ownsRow B' e' z' v' n' xs') (he : e ≠ e') {g : Nat} (hg : v.ownBlock = some g) (hg' : v'.ownBlock = some g) : False := by
  rcases h'.2 with ⟨rfl, _⟩ | ⟨g', cap, cur, rfl, _, hb, _⟩
  · simp [Value.ownBlock] at hg'
  · simp only [Value.ownBlock, Option.some.injEq] at hg'
    subst hg'
    exact block_ne h hb he hg
/-- What is not touched stays. -/
theorem Rd.keeps {w w' : World} {B r b : Nat} {rawv outv : Value} {raw : List UInt8} {l : List (Tok × Value)} {S : List Nat} (h : Rd w B r b rawv outv raw l) (hk : Keeps S w w') (hr : r ∉ S) (hraw : ∀ g, rawv.ownBlock = some g → g ∉ S) (hout : ∀ g, outv.ownBlock = some g → g ∉ S)
    (hat : ∀ p ∈ l, ∀ g, p.2.ownBlock = some g → g ∉ S) (h0 : 0 ∉ S) : Rd w' B r b rawv outv raw l :=
  ⟨h.reader.keeps hk hr, hk.owns h.raw hraw, hk.owns h.out hout, fun p hp => hk.owns (h.attrs p hp) (hat p hp), h.max.keeps hk h0, h.pos, h.hr, h.hb⟩
theorem Rd.keepsNil {w w' : World} {B r b : Nat} {rawv outv : Value} {raw : List UInt8} {l : List (Tok × Value)} (h : Rd w B r b rawv outv raw l) (hk : Keeps [] w w') : Rd w' B r b rawv outv raw l :=
  h.keeps hk List.not_mem_nil (fun _ _ => List.not_mem_nil) (fun _ _ => List.not_mem_nil) (fun _ _ _ _ => List.not_mem_nil) List.not_mem_nil
theorem Rd.keepsText {w w' : World} {B r b : Nat} {rawv outv : Value} {raw : List UInt8} {l : List (Tok × Value)} (h : Rd w B r b rawv outv raw l) {s : ByteArray} {k : Nat} (hT : IsText w b s k) (hk : Keeps [b] w w') : Rd w' B r b rawv outv raw l := by
  refine h.keeps hk (by simpa using h.reader.ne hT) (fun g hg => ?_) (fun g hg => ?_) (fun p hp g hg => ?_) ?_
  · intro hm; simp at hm; subst hm; exact block_ne h.raw hT (by decide) hg
  · intro hm; simp at hm; subst hm; exact block_ne h.out hT (by decide) hg
  · intro hm; simp at hm; subst hm; exact block_ne (h.attrs p hp) hT (by decide) hg
  · have := h.pos; have := h.hb; simp; omega
theorem Rd.ne {w : World} {B r b : Nat} {rawv outv : Value} {raw : List UInt8} {l : List (Tok × Value)} (h : Rd w B r b rawv outv raw l) {s : ByteArray} {k : Nat} (hT : IsText w b s k) : r ≠ b := h.reader.ne hT
theorem Rd.b0 {w : World} {B r b : Nat} {rawv outv : Value} {raw : List UInt8} {l : List (Tok × Value)} (h : Rd w B r b rawv outv raw l) : 0 ∉ [b] := by
  have := h.pos; have := h.hb; simp; omega
theorem enters291 : Enters 291 := enters_of Tryz.func291 (by kernel_rfl) (by kernel_rfl)
/-- A mark at the head is met at once. -/
theorem endOf_here {p l : List UInt8} (h : Lib.hasPrefix l p = true) : endOf p l = some p.length := by
  have e : Lib.index l p = 0 := by
    unfold Lib.index
    cases l with
    | nil => simp_all [Lib.hasPrefix]
    | cons c l =>
      have h' : p <+: c :: l := by unfold Lib.hasPrefix at h; simpa using h
      simp [h']
  unfold endOf
  rw [e]
  simp
set_option maxHeartbeats 1000000 in
/-- tagName where the mark stands. -/
theorem tagName_any (r b : Nat) (rawv outv : Value) (s p : ByteArray) (k : Nat) (w : World) (hs : s.size ≤ 3000) (hp : p.size ≤ 3000) (hR : IsReader w r b rawv outv) (hT : IsText w b s k) (hM : HasMax w) (hk : k + p.size ≤ s.size) (hst : stAt s k p.data.toList = true)
    (N : List UInt8) (hN : (s.data.toList.drop (k + p.size)).takeWhile tagN = N) :
    Calls Tryz.prog 229 #[.pointer (some ⟨r, 0, none⟩), .string p] w fun e w' =>
      e = .returned (.string ⟨(lowerL N).toArray⟩) ∧ IsText w' b s (k + p.size + N.length) ∧ Keeps [b] w w' := by
  have hne := hR.ne hT
  have c0 := hR.cell0
  have hend : endOf p.data.toList (s.data.toList.drop k) = some p.data.toList.length := endOf_here hst
  have hpt := hide (passTo_any b s k p w hs hp hT (by omega) hM)
  rw [hend] at hpt
  have hps := hide (fun w hT => pass_of 291 tagN enters291 tagN_any b s (k + p.size) w hs hT hk)
  have hLl := takeWhile_le tagN s (k + p.size) hk
  rw [hN] at hps hLl
  have hlow := hide (fun w => lower_any ⟨N.toArray⟩ w (by rw [str_size]; omega))
  rw [str_list] at hlow
  generalize lowerL N = NN at *
  clear hN hend hst
  go_enter Tryz.func229, Tryz.ntmps229
  go_wp2_with fail
  refine hpt.out.mono ?_
  rintro e w1 ⟨⟨m, hm, rfl, hT1⟩ | ⟨hm, _⟩, hk1⟩
  · simp only [Option.some.injEq] at hm
    have hT1' : IsText w1 b s (k + p.size) := hT1.at (by rw [← hm]; rfl)
    clear hT1 hm hpt
    have hR1 := hR.keeps hk1 (by simpa using hne)
    have c1 := hR1.cell0
    go_wp2_with fail
    refine (hps.out _ hT1').mono ?_
    rintro e w2 ⟨rfl, hT2, hk2⟩
    go_wp2_with fail
    refine (hlow.out _).mono ?_
    rintro e w3 ⟨rfl, hk3⟩
    go_wp2_with fail
    go_ret
    exact ⟨rfl, hT2.keeps hk3 List.not_mem_nil, (hk1.trans hk2).trans (hk3.to (by simp))⟩
  · simp at hm
set_option maxHeartbeats 1000000 in
theorem tagBegins_any (r b : Nat) (rawv outv : Value) (s p : ByteArray) (k : Nat) (w : World) (hs : s.size ≤ 3000) (hp : p.size ≤ 3000) (hR : IsReader w r b rawv outv) (hT : IsText w b s k) (hk : k ≤ s.size) :
    Calls Tryz.prog 152 #[.pointer (some ⟨r, 0, none⟩), .string p] w fun e w' =>
      e = .returned (.bool (stAt s k p.data.toList && (decide (k + p.size < s.size) && letterB (byteAt s (k + p.size))))) ∧ IsText w' b s k ∧ Keeps [] w w' := by
  have c0 := hR.cell0
  have hbg := hide (begins_any b s k p w hT hk)
  have hah := hide (fun w hT => ahead_any b s k p.size w hs hT hk hp)
  generalize (decide (k + p.size < s.size) && letterB (byteAt s (k + p.size))) = q at *
  cases hst : stAt s k p.data.toList
  · rw [hst] at hbg
    rw [Bool.false_and]
    go_enter Tryz.func152, Tryz.ntmps152
    go_wp2_with fail
    refine hbg.out.mono ?_
    rintro e w1 ⟨rfl, n, rfl⟩
    go_wp2_with fail
    go_ret
    exact ⟨rfl, hT, (Keeps.refl _ _).drewN _⟩
  · rw [hst] at hbg
    rw [Bool.true_and]
    go_enter Tryz.func152, Tryz.ntmps152
    go_wp2_with fail
    refine hbg.out.mono ?_
    rintro e w1 ⟨rfl, n, rfl⟩
    have c1 : (w.drewN n).cell? ⟨r, 0, none⟩ = some (.pointer (some ⟨b, 0, none⟩)) := c0
    go_wp2_with fail
    refine (hah.out (w.drewN n) hT).mono ?_
    rintro e w2 ⟨rfl, n2, rfl⟩
    go_wp2_with fail
    go_ret
    exact ⟨rfl, hT, (Keeps.refl _ _).drewN _⟩
end Go.Proofs.YtlcljanibjdejaaGreat
namespace Go.Proofs.YtlcljanibjdejaaGreat
open Go.RowKit Go.Maps
theorem enters160 : Enters 160 := enters_of Tryz.func160 (by kernel_rfl) (by kernel_rfl)
theorem info43 : (Tryz.prog.info? 117).map (fun i => (i.zero, i.size, i.bytes)) = some (some (.agg #[.int .i64 0, .string ⟨#[]⟩, .slice none 0 0, .string ⟨#[]⟩]), 4, 64) := by kernel_rfl
/-- A text token. -/
def textTok (t : List UInt8) : Tok := ⟨1, [], [], t⟩
/-- What may be touched when tokens are put. -/
def touch (r : Nat) (rawv outv : Value) : List Nat := r :: (rawv.ownBlock.toList ++ outv.ownBlock.toList)
theorem lit_cells (w : World) (cs : Array Value) (t : TypeId) (j : Nat) (u : Value) (h : cs.toList[j]? = some u) : (w.alloc (.cells cs t)).cell? ((⟨w.heap.size, 0, none⟩ : Addr).add j) = some u := by
  rw [add_zero]
  have hh := heap_alloc_new w (.cells cs t)
  have h' : cs[j]? = some u := by simpa using h
  simp only [World.cell?]
  rw [hh]
  exact h'
theorem IsReader.blk {w : World} {r b : Nat} {rawv outv : Value} (h : IsReader w r b rawv outv) : w.heap[r]? = some (.cells #[.pointer (some ⟨b, 0, none⟩), rawv, outv] 109 (0, 0)) := h
theorem row_form {w : World} {B : Nat} {e : TypeId} {z : Nat} {v : Value} {n : Nat} {xs : List Value} (h : w.ownsRow B e z v n xs) : ∃ o c, v = .slice o n c := by
  rcases h.2 with ⟨rfl, h0⟩ | ⟨g, cap, cur, rfl, _⟩
  · exact ⟨none, 0, by rw [h0]⟩
  · exact ⟨_, _, rfl⟩
theorem IsReader.set2 {w : World} {r b : Nat} {rawv outv : Value} (h : IsReader w r b rawv outv) (v : Value) : IsReader (w.setCell ⟨r, 2, none⟩ v) r b rawv v := by
  simp [World.setCell, IsReader, Array.getElem?_modify] at h ⊢; simp [h]
theorem IsReader.set1 {w : World} {r b : Nat} {rawv outv : Value} (h : IsReader w r b rawv outv) (v : Value) : IsReader (w.setCell ⟨r, 1, none⟩ v) r b v outv := by
  simp [World.setCell, IsReader, Array.getElem?_modify] at h ⊢; simp [h]
theorem set_row {w : World} {B : Nat} {e : TypeId} {z : Nat} {v : Value} {n : Nat} {xs : List Value} (h : w.ownsRow B e z v n xs) {a : Addr} (ha : v.ownBlock ≠ some a.block) (u : Value) : (w.setCell a u).ownsRow B e z v n xs :=
  ((Keeps.refl [a.block] w).setCell (.inl (by simp)) u).owns h (fun g hg => by
    intro hm
    simp at hm
    subst hm
    exact ha hg)
theorem Rd.outReader {w w3 : World} {B r b : Nat} {rawv outv : Value} {raw : List UInt8} {l : List (Tok × Value)} (h : Rd w B r b rawv outv raw l) (hk : Keeps outv.ownBlock.toList w w3) : IsReader w3 r b rawv outv :=
  h.reader.keeps hk (fun hm => block_ne h.out h.reader.blk (by decide) (by simpa using hm))
/-- A token is put behind the others. -/
theorem Rd.grow {w w3 : World} {B r b : Nat} {rawv outv : Value} {raw : List UInt8} {l : List (Tok × Value)} (h : Rd w B r b rawv outv raw l) (hk : Keeps outv.ownBlock.toList w w3) {v3 : Value} {p : Tok × Value} (ho : w3.ownsRow B 117 4 v3 (l.length + 1) (outCells l ++ tokCells p)) (hp : HasAttrs w3 B p) :
    Rd (w3.setCell ⟨r, 2, none⟩ v3) B r b rawv v3 raw (l ++ [p]) ∧ Keeps (touch r rawv outv) w (w3.setCell ⟨r, 2, none⟩ v3) := by
  have hR3 := h.outReader hk
  have hraw3 := hk.owns h.raw (fun g hg hm => rows_apart h.raw h.out (by decide) hg (by simpa using hm))
  have hat3 : ∀ q ∈ l, HasAttrs w3 B q := fun q hq => hk.owns (h.attrs q hq) (fun g hg hm => rows_apart (h.attrs q hq) h.out (by decide) hg (by simpa using hm))
  have hpos := h.pos
  have hk' : Keeps (touch r rawv outv) w (w3.setCell ⟨r, 2, none⟩ v3) := (hk.to (fun i hi => by simp [touch] at hi ⊢; exact .inr (.inr hi))).setCell (.inl (by simp [touch])) _
  refine ⟨⟨hR3.set2 v3, set_row hraw3 (block_ne hraw3 hR3.blk (by decide)) _, ?_, ?_, ?_, h.pos, h.hr, h.hb⟩, hk'⟩
  · rw [outCells_add, List.length_append]
    exact set_row ho (block_ne ho hR3.blk (by decide)) _
  · intro q hq
    rcases List.mem_append.1 hq with hq | hq
    · exact set_row (hat3 q hq) (block_ne (hat3 q hq) hR3.blk (by decide)) _
    · simp at hq
      subst hq
      exact set_row hp (block_ne hp hR3.blk (by decide)) _
  · refine h.max.keeps hk' ?_
    intro hm
    have := h.hr
    simp [touch] at hm
    rcases hm with hm | hm | hm
    · omega
    · have := (h.raw.lt _ hm).1; omega
    · have := (h.out.lt _ hm).1; omega
/-- An append of a slice's cells onto a row that the call owns; where the row lies then. -/
theorem step_own_at {P : Program} {ops : Array Oper} {o : Oper} {a : Act} {w : World} {K : Act → World → Prop} {Q : Exit → Act → World → Prop} {E : Prop} (hg : o.guard = none) (s x : Operand) (t : TypeId)
    (ho : o.op = .call { callee := .builtin .append, args := #[s, x], argTypes := #[t, t] })
    (base : Nat) (e : TypeId) (i : TypeInfo) (z : Value) (size bytes : Nat) (ht : P.underlying t = some (.slice e)) (hi : P.info? e = some i) (hz : i.zero = some z)
    (hsize : i.size = size) (hby : i.bytes = bytes) (hzs : z.cells.size = size) (hsz : 0 < size)
    (v : Value) (n : Nat) (xs : List Value) (hs : a.eval s = v) (hown : w.ownsRow base e size v n xs)
    (ad : Addr) (m c : Nat) (news : List Value) (hx : a.eval x = .slice (some ad) m c) (hl : news.length = m * size) (hnews : ∀ j u, news[j]? = some u → w.cell? (ad.add j) = some u) (h1 : ∀ u ∈ news, u.oneCell' = true)
    (h63 : n + m ≤ maxLen) (hbytes : (n + m) * bytes ≤ 140737488355328) (hbase : base ≤ w.heap.size)
    (h : ∀ v' w', w'.ownsRow base e size v' (n + m) (xs ++ news) → w.grownBy w' v.ownBlock → (v'.ownBlock = v.ownBlock ∨ v'.ownBlock = some w.heap.size) → K (a.put o.dst v') w') :
    if Region.wanted o (yielded ops a.tmps) = true then Oper.wp P o a w K Q else E := by
  refine step_is hg ?_
  obtain ⟨v', w', hr, h2, h3, _, h5⟩ := run_append_own_at (P := P) w base t o.type e i z size bytes ht hi hz hsize hby hzs hsz v n xs hown ad m c news hl hnews h1 h63 hbytes hbase
  unfold Oper.wp execOp
  simp only [ho, resolve, invoke, builtin, Sem.run_bind, Sem.run_pure, Result.andThen_ok, List.map_toArray, List.map_cons, List.map_nil, hs, hx, hr]
  exact h v' w' h2 h3 h5
/-- What is touched anew is what was touched, or is new. -/
def Within (w : World) (S T : List Nat) : Prop := ∀ i, i ∈ S → i < w.heap.size → i ∈ T
theorem Within.refl (w : World) (S : List Nat) : Within w S S := fun _ h _ => h
theorem Keeps.within {S T : List Nat} {a w w' : World} (h : Keeps T a w) (k : Keeps S w w') (hS : Within a S T) : Keeps T a w' :=
  ((h.to (T := S ++ T) (by simp; exact fun _ h => .inr h)).trans (k.to (by simp; exact fun _ h => .inl h))).mono fun i hi hlt => by
    rcases List.mem_append.1 hi with hi | hi
    · exact hS i hi hlt
    · exact hi
theorem within_out {w : World} {r : Nat} {rawv outv outv' : Value} {n : Nat} (h : outv'.ownBlock = outv.ownBlock ∨ outv'.ownBlock = some n) (hn : w.heap.size ≤ n) : Within w (touch r rawv outv') (touch r rawv outv) := by
  intro i hi hlt
  simp [touch] at hi ⊢
  rcases hi with hi | hi | hi
  · exact .inl hi
  · exact .inr (.inl hi)
  · rcases h with h | h
    · rw [h] at hi; exact .inr (.inr hi)
    · rw [h] at hi; simp at hi; omega
theorem within_raw {w : World} {r : Nat} {rawv rawv' outv : Value} {n : Nat} (h : rawv'.ownBlock = rawv.ownBlock ∨ rawv'.ownBlock = some n) (hn : w.heap.size ≤ n) : Within w (touch r rawv' outv) (touch r rawv outv) := by
  intro i hi hlt
  simp [touch] at hi ⊢
  rcases hi with hi | hi | hi
  · exact .inl hi
  · rcases h with h | h
    · rw [h] at hi; exact .inr (.inl hi)
    · rw [h] at hi; simp at hi; omega
  · exact .inr (.inr hi)
theorem Rd.touch0 {w : World} {B r b : Nat} {rawv outv : Value} {raw : List UInt8} {l : List (Tok × Value)} (h : Rd w B r b rawv outv raw l) : 0 ∉ touch r rawv outv := by
  intro hm
  have := h.hr
  have := h.pos
  simp [touch] at hm
  rcases hm with hm | hm | hm
  · omega
  · have := (h.raw.lt _ hm).1; omega
  · have := (h.out.lt _ hm).1; omega
theorem Rd.touch_lt {w : World} {B r b : Nat} {rawv outv : Value} {raw : List UInt8} {l : List (Tok × Value)} (h : Rd w B r b rawv outv raw l) : ∀ i, i ∈ touch r rawv outv → i < w.heap.size := by
  intro i hm
  simp [touch] at hm
  rcases hm with hm | hm | hm
  · rw [hm]; exact h.reader.lt
  · exact (h.raw.lt _ hm).2
  · exact (h.out.lt _ hm).2
/-- The text that isn't taken yet is another. -/
theorem Rd.setRaw {w w3 : World} {B r b : Nat} {rawv outv : Value} {raw : List UInt8} {l : List (Tok × Value)} (h : Rd w B r b rawv outv raw l) (hk : Keeps rawv.ownBlock.toList w w3) {v3 : Value} {raw3 : List UInt8} (ho : w3.ownsRow B 5 1 v3 raw3.length (Lib.byteCells raw3)) :
    Rd (w3.setCell ⟨r, 1, none⟩ v3) B r b v3 outv raw3 l ∧ Keeps (touch r rawv outv) w (w3.setCell ⟨r, 1, none⟩ v3) := by
  have hR3 : IsReader w3 r b rawv outv := h.reader.keeps hk (fun hm => block_ne h.raw h.reader.blk (by decide) (by simpa using hm))
  have hout3 := hk.owns h.out (fun g hg hm => rows_apart h.out h.raw (by decide) hg (by simpa using hm))
  have hat3 : ∀ q ∈ l, HasAttrs w3 B q := fun q hq => hk.owns (h.attrs q hq) (fun g hg hm => rows_apart (h.attrs q hq) h.raw (by decide) hg (by simpa using hm))
  have hk' : Keeps (touch r rawv outv) w (w3.setCell ⟨r, 1, none⟩ v3) := (hk.to (fun i hi => by simp [touch] at hi ⊢; exact .inr (.inl hi))).setCell (.inl (by simp [touch])) _
  exact ⟨⟨hR3.set1 v3, set_row ho (block_ne ho hR3.blk (by decide)) _, set_row hout3 (block_ne hout3 hR3.blk (by decide)) _, fun q hq => set_row (hat3 q hq) (block_ne (hat3 q hq) hR3.blk (by decide)) _, h.max.keeps hk' h.touch0, h.pos, h.hr, h.hb⟩, hk'⟩
theorem row_zero {w : World} {B : Nat} {e : TypeId} {z g cap n : Nat} {xs : List Value} (h : w.ownsRow B e z (.slice (some ⟨g, 0, none⟩) n cap) n xs) : w.ownsRow B e z (.slice (some ⟨g, 0, none⟩) 0 cap) 0 [] := by
  rcases h.2 with ⟨h1, _⟩ | ⟨g', cap', cur, he, h2, h3, h4, h5, h6, h7⟩
  · simp at h1
  · simp at he
    obtain ⟨rfl, rfl⟩ := he
    exact ⟨by simp, .inr ⟨g, cap, cur, rfl, h2, h3, Nat.zero_le _, h5, h6, by simp⟩⟩
set_option maxRecDepth 4000 in
set_option maxHeartbeats 4000000 in
theorem endText_some (B r b : Nat) (rawv outv : Value) (raw : List UInt8) (l : List (Tok × Value)) (w : World) (h : Rd w B r b rawv outv raw l) (hB : B ≤ w.heap.size) (hne : raw ≠ []) (hraw : raw.length ≤ 3000) (hl : l.length ≤ 100000) :
    Calls Tryz.prog 81 #[.pointer (some ⟨r, 0, none⟩)] w fun e w' =>
      e = .returned (.tuple #[]) ∧ ∃ rawv' outv', Rd w' B r b rawv' outv' [] (l ++ [(textTok (takeL raw).1, .slice none 0 0)]) ∧ Keeps (touch r rawv outv) w w' ∧ Within w (touch r rawv' outv') (touch r rawv outv) := by
  have hlen : ((raw.length : Int) == 0) = false := by
    have : raw.length ≠ 0 := fun e => hne (List.eq_nil_of_length_eq_zero e)
    simp; omega
  have c1 := h.reader.cell1
  have c2 := h.reader.cell2
  obtain ⟨g, cap, cur, hrv, hgb, hgc, hcap1, hcap2, hcur1, hcur2⟩ : ∃ g cap cur, rawv = .slice (some ⟨g, 0, none⟩) raw.length cap ∧ B ≤ g ∧ w.heap[g]? = some (.cells cur 5 (0, 0)) ∧ raw.length ≤ cap ∧ cap ≤ maxLen ∧ cur.size = cap * 1 ∧ cur.toList.take (raw.length * 1) = Lib.byteCells raw := by
    rcases h.raw.2 with ⟨_, h0⟩ | h'
    · exact absurd (List.eq_nil_of_length_eq_zero h0) hne
    · exact h'
  subst hrv
  have hcv : (convert 107 9 (.slice (some ⟨g, 0, none⟩) raw.length cap)).run Tryz.prog w.drew = .ok (.string ⟨raw.toArray⟩) w.drew := own_string (w := w.drew) h.raw.drew 0
  have htak := hide (fun w => tak_any ⟨raw.toArray⟩ w hraw)
  rw [str_list] at htak
  obtain ⟨T, hTT⟩ : ∃ T, (takeL raw).1 = T := ⟨_, rfl⟩
  rw [hTT] at htak ⊢
  clear hTT
  obtain ⟨i0, hi, hz0, hz1, hz2⟩ := info_parts info43
  clear hcur1 hcur2
  go_enter Tryz.func81, Tryz.ntmps81
  go_upto_region 1 with fail
  go_cut [] from 8 to 23 (fun wc => ∃ outv', Rd wc B r b (.slice (some ⟨g, 0, none⟩) raw.length cap) outv' raw (l ++ [(textTok T, .slice none 0 0)]) ∧ Keeps (touch r (.slice (some ⟨g, 0, none⟩) raw.length cap) outv) w wc ∧ Within w (touch r (.slice (some ⟨g, 0, none⟩) raw.length cap) outv') (touch r (.slice (some ⟨g, 0, none⟩) raw.length cap) outv))
  case first =>
    go_region_law (first
      | (refine step_call rfl 160 _ _ rfl enters160 #[.string ⟨raw.toArray⟩] (by simp [Act.eval]) (htak.out _) ?_; rintro e w2 ⟨rfl, hk2⟩; refine ⟨_, rfl, ?_⟩; have hR2 := h.reader.keeps (keeps_drew hk2) List.not_mem_nil; have d2 := hR2.cell2; have d2a : ∀ o, (w2.alloc o).cell? ⟨r, 2, none⟩ = some outv := fun o => (cell_past (a := ⟨r, 2, none⟩) hR2.lt o).trans d2)
      | (refine step_own_at rfl _ _ 26 rfl B 117 i0 _ 4 64 Tryz.underlying26 hi hz0 hz1 hz2 (by kernel_rfl) (by decide) outv l.length (outCells l) rfl (((keeps_drew hk2).owns h.out (fun _ _ => List.not_mem_nil)).alloc _) ⟨w2.heap.size, 0, none⟩ 1 1 (tokCells (textTok T, .slice none 0 0)) rfl rfl (lit_cells w2 _ 117) (by intro u hu; simp [tokCells] at hu; rcases hu with rfl | rfl | rfl | rfl <;> rfl) (by unfold maxLen; omega) (by omega) (Nat.le_trans hB (Nat.le_trans hk2.size (by simp))) ?_; intro v3 w3 ho3 hg3 hw3; obtain ⟨o3, c3, rfl⟩ := row_form ho3; have hk3 : Keeps outv.ownBlock.toList w w3 := ((keeps_drew hk2).up.alloc _).grown hg3 (fun i e => .inl (by simp [e])); have hR3 := h.outReader hk3; have d3 := hR3.cell2; have f3 := hR3.free))
    all_goals go_wp2
    all_goals go_meet
    all_goals exact ⟨_, (h.grow hk3 ho3 (World.ownsRow_nil _ _ _ _)).1, (h.grow hk3 ho3 (World.ownsRow_nil _ _ _ _)).2, within_out hw3 (Nat.le_trans hk2.size (by simp))⟩
  case rest =>
    obtain ⟨outv', h', hk', hw'⟩ := hcut
    have e1 := h'.reader.cell1
    have f1 := h'.reader.free
    clear c1 c2 hcv
    go_wp2_with fail
    go_end0
    exact ⟨rfl, _, _, (h'.setRaw (Keeps.refl _ _) (raw3 := []) (row_zero h'.raw)).1, hk'.setCell (.inl (by simp [touch])) _, fun i hi hlt => hw' i (by simpa [touch, Value.ownBlock] using hi) hlt⟩
/-- The text that isn't taken yet, as a token. -/
def endToks (raw : List UInt8) : List (Tok × Value) := if raw = [] then [] else [(textTok (takeL raw).1, .slice none 0 0)]
set_option maxHeartbeats 1000000 in
theorem endText_any (B r b : Nat) (rawv outv : Value) (raw : List UInt8) (l : List (Tok × Value)) (w : World) (h : Rd w B r b rawv outv raw l) (hB : B ≤ w.heap.size) (hraw : raw.length ≤ 3000) (hl : l.length ≤ 100000) :
    Calls Tryz.prog 81 #[.pointer (some ⟨r, 0, none⟩)] w fun e w' =>
      e = .returned (.tuple #[]) ∧ ∃ rawv' outv', Rd w' B r b rawv' outv' [] (l ++ endToks raw) ∧ Keeps (touch r rawv outv) w w' ∧ Within w (touch r rawv' outv') (touch r rawv outv) := by
  by_cases hne : raw = []
  · subst hne
    have c1 := h.reader.cell1
    obtain ⟨o, c, ho⟩ := row_form h.raw
    subst ho
    have e0 : endToks [] = [] := rfl
    rw [e0, List.append_nil]
    go_enter Tryz.func81, Tryz.ntmps81
    go_wp2_with fail
    refine bodyPost_ret (v := .tuple #[]) (by simp [results, Tryz.results81]) rfl ?_
    exact ⟨rfl, _, _, h, Keeps.refl _ _, Within.refl _ _⟩
  · have e0 : endToks raw = [(textTok (takeL raw).1, .slice none 0 0)] := if_neg hne
    rw [e0]
    exact endText_some B r b rawv outv raw l w h hB hne hraw hl
end Go.Proofs.YtlcljanibjdejaaGreat
namespace Go.Proofs.YtlcljanibjdejaaGreat
open Go.RowKit Go.Maps
/-- Four cells of a token lie in a block. -/
def IsTok (w : World) (g : Nat) (p : Tok × Value) : Prop := w.heap[g]? = some (.cells #[.int .i64 p.1.kind, .string ⟨p.1.name.toArray⟩, p.2, .string ⟨p.1.text.toArray⟩] 117 (0, 0))
theorem IsTok.cell (j : Nat) {w : World} {g : Nat} {p : Tok × Value} (h : IsTok w g p) : w.cell? ⟨g, j, none⟩ = (#[.int .i64 p.1.kind, .string ⟨p.1.name.toArray⟩, p.2, .string ⟨p.1.text.toArray⟩] : Array Value)[j]? := by
  unfold World.cell?
  simp only
  rw [show w.heap[g]? = _ from h]
  simp
theorem IsTok.lt {w : World} {g : Nat} {p : Tok × Value} (h : IsTok w g p) : g < w.heap.size := lt_of_block h
theorem IsTok.keeps {S : List Nat} {w w' : World} {g : Nat} {p : Tok × Value} (h : IsTok w g p) (hk : Keeps S w w') (hg : g ∉ S) : IsTok w' g p := by
  rw [IsTok, hk.block g h.lt hg]; exact h
theorem HasAttrs.touch {w w' : World} {B r b : Nat} {rawv outv : Value} {raw : List UInt8} {l : List (Tok × Value)} (h : Rd w B r b rawv outv raw l) {p : Tok × Value} (hp : HasAttrs w B p) (hk : Keeps (touch r rawv outv) w w') : HasAttrs w' B p := by
  refine hk.owns hp (fun g hg hm => ?_)
  simp [Go.Proofs.YtlcljanibjdejaaGreat.touch] at hm
  rcases hm with rfl | hm | hm
  · exact block_ne hp h.reader.blk (by decide) hg
  · exact rows_apart hp h.raw (by decide) hg hm
  · exact rows_apart hp h.out (by decide) hg hm
theorem one_cells {p : Tok × Value} {o : Option Addr} {n c : Nat} (h : p.2 = .slice o n c) : ∀ u ∈ tokCells p, u.oneCell' = true := by
  intro u hu
  simp [tokCells, h] at hu
  rcases hu with rfl | rfl | rfl | rfl <;> rfl
theorem HasAttrs.form {w : World} {B : Nat} {p : Tok × Value} (hp : HasAttrs w B p) : ∃ o n c, p.2 = .slice o n c := by
  obtain ⟨o, c, h⟩ := row_form hp
  exact ⟨o, _, c, h⟩
set_option maxRecDepth 4000 in
set_option maxHeartbeats 4000000 in
theorem put_tok (B r b : Nat) (rawv outv : Value) (raw : List UInt8) (l : List (Tok × Value)) (w : World) (h : Rd w B r b rawv outv raw l) (hB : B ≤ w.heap.size) (hraw : raw.length ≤ 3000) (hl : l.length ≤ 90000)
    (kd : Int) (nm tx : List UInt8) (at' : List Pair) (o : Option Addr) (n c : Nat) (hp : HasAttrs w B (⟨kd, nm, at', tx⟩, .slice o n c)) :
    Calls Tryz.prog 232 #[.pointer (some ⟨r, 0, none⟩), .agg #[.int .i64 kd, .string ⟨nm.toArray⟩, .slice o n c, .string ⟨tx.toArray⟩]] w fun e w' =>
      e = .returned (.tuple #[]) ∧ ∃ rawv' outv', Rd w' B r b rawv' outv' [] (l ++ endToks raw ++ [(⟨kd, nm, at', tx⟩, .slice o n c)]) ∧ Keeps (touch r rawv outv) w w' := by
  have hel : (l ++ endToks raw).length ≤ 100000 := by
    unfold endToks
    split <;> simp <;> omega
  obtain ⟨i0, hi, hz0, hz1, hz2⟩ := info_parts info43
  have ha : Keeps [] w (w.alloc (.cells #[.int .i64 kd, .string ⟨nm.toArray⟩, .slice o n c, .string ⟨tx.toArray⟩] 117)) := (Keeps.refl [] w).alloc _
  have hbx : IsTok (w.alloc (.cells #[.int .i64 kd, .string ⟨nm.toArray⟩, .slice o n c, .string ⟨tx.toArray⟩] 117)) w.heap.size (⟨kd, nm, at', tx⟩, .slice o n c) := heap_alloc_new w _
  have het := hide (endText_any B r b rawv outv raw l _ (h.keepsNil ha) (Nat.le_trans hB ha.size) hraw (by omega))
  have hpa : HasAttrs (w.alloc (.cells #[.int .i64 kd, .string ⟨nm.toArray⟩, .slice o n c, .string ⟨tx.toArray⟩] 117)) B (⟨kd, nm, at', tx⟩, .slice o n c) := ha.owns hp (fun _ _ => List.not_mem_nil)
  have hpt := hide (fun w' (hk : Keeps (touch r rawv outv) (w.alloc (.cells #[.int .i64 kd, .string ⟨nm.toArray⟩, .slice o n c, .string ⟨tx.toArray⟩] 117)) w') => hpa.touch (h.keepsNil ha) hk)
  have htl := h.touch_lt
  generalize hll : l ++ endToks raw = ll at *
  clear hll hpa
  go_enter Tryz.func232, Tryz.ntmps232
  go_wp2_with fail
  refine het.out.mono ?_
  rintro e w1 ⟨rfl, rawv', outv', h1, hk1, hw1⟩
  have hp1 := hpt.out _ hk1
  have hbx1 := hbx.keeps hk1 (fun hm => by have := htl _ hm; omega)
  have hw1' : Within w (touch r rawv' outv') (touch r rawv outv) := fun i hi hlt => hw1 i hi (by have := ha.size; omega)
  have hka : Keeps (touch r rawv outv) w w1 := (ha.to (by simp)).trans hk1
  have hB1 : B ≤ w1.heap.size := Nat.le_trans (Nat.le_trans hB ha.size) hk1.size
  clear het hpt hk1 hw1 hbx ha
  have c2 := h1.reader.cell2
  have c2a : ∀ o, (w1.alloc o).cell? ⟨r, 2, none⟩ = some outv' := fun o => (cell_past (a := ⟨r, 2, none⟩) h1.reader.lt o).trans c2
  have b0 := hbx1.cell 0
  have b1 := hbx1.cell 1
  have b2 := hbx1.cell 2
  have b3 := hbx1.cell 3
  simp at b0 b1 b2 b3
  go_upto_region 2 with fail
  go_region_law (refine step_own_at rfl _ _ 26 rfl B 117 i0 _ 4 64 Tryz.underlying26 hi hz0 hz1 hz2 (by kernel_rfl) (by decide) outv' ll.length (outCells ll) rfl ((h1.out.alloc _).drew) ⟨w1.heap.size, 0, none⟩ 1 1 (tokCells (⟨kd, nm, at', tx⟩, .slice o n c)) rfl rfl (lit_cells w1 _ 117) (one_cells rfl) (by unfold maxLen; omega) (by omega) (Nat.le_trans hB1 (by simp)) ?_; intro v3 w3 ho3 hg3 hw3; obtain ⟨o3, c3, rfl⟩ := row_form ho3; have hk3 : Keeps outv'.ownBlock.toList w1 w3 := (((Keeps.refl _ w1).alloc _).drew).grown hg3 (fun i e => .inl (by simp [e])); have hR3 := h1.outReader hk3; have d3 := hR3.cell2; have f3 := hR3.free)
  all_goals go_wp2
  all_goals go_end0
  all_goals exact ⟨rfl, _, _, (h1.grow hk3 ho3 (hk3.owns hp1 (fun g hg hm => rows_apart hp1 h1.out (by decide) hg (by simpa using hm)))).1, hka.within (h1.grow hk3 ho3 (hk3.owns hp1 (fun g hg hm => rows_apart hp1 h1.out (by decide) hg (by simpa using hm)))).2 hw1'⟩
end Go.Proofs.YtlcljanibjdejaaGreat
namespace Go.Proofs.YtlcljanibjdejaaGreat
open Go.RowKit Go.Maps
/-- The text that isn't taken yet, as a token. -/
def endT (raw : List UInt8) : List Tok := if raw = [] then [] else [textTok (takeL raw).1]
theorem endToks_map (raw : List UInt8) : (endToks raw).map (·.1) = endT raw := by
  unfold endToks endT
  split <;> rfl
/-- A tag that begins at a place. -/
def openL (l : List UInt8) (k : Nat) (raw : List UInt8) (out : List Tok) : Option (Nat × List UInt8 × List Tok) :=
  match attrsAt l (l.length + 1) (k + 1 + ((l.drop (k + 1)).takeWhile tagN).length) [] with
  | none => none
  | some (a, k2) => some (k2 + 1, if isNameL (lowerL ((l.drop (k + 1)).takeWhile tagN)) = true then ([], out ++ endT raw ++ [⟨2, lowerL ((l.drop (k + 1)).takeWhile tagN), a, []⟩]) else (raw, out))
def closeL (l : List UInt8) (k : Nat) (raw : List UInt8) (out : List Tok) : Option (Nat × List UInt8 × List Tok) :=
  match endOf [62] (l.drop (k + 2 + ((l.drop (k + 2)).takeWhile tagN).length)) with
  | none => none
  | some m => some (k + 2 + ((l.drop (k + 2)).takeWhile tagN).length + m, if isNameL (lowerL ((l.drop (k + 2)).takeWhile tagN)) = true then ([], out ++ endT raw ++ [⟨3, lowerL ((l.drop (k + 2)).takeWhile tagN), [], []⟩]) else (raw, out))
theorem Rd.text_touch {w : World} {B r b : Nat} {rawv outv : Value} {raw : List UInt8} {l : List (Tok × Value)} (h : Rd w B r b rawv outv raw l) {s : ByteArray} {k : Nat} (hT : IsText w b s k) : b ∉ touch r rawv outv := by
  intro hm
  simp [touch] at hm
  rcases hm with hm | hm | hm
  · exact h.ne hT hm.symm
  · exact block_ne h.raw hT (by decide) hm
  · exact block_ne h.out hT (by decide) hm
theorem keeps_text {S : List Nat} {b : Nat} {w w' : World} (h : Keeps [b] w w') : Keeps (b :: S) w w' := h.to (by simp)
theorem keeps_touch {S : List Nat} {b : Nat} {w w' : World} (h : Keeps S w w') : Keeps (b :: S) w w' := h.to (fun _ hi => List.mem_cons_of_mem _ hi)
set_option maxRecDepth 4000 in
set_option maxHeartbeats 4000000 in
theorem openTag_any (B r b : Nat) (rawv outv : Value) (raw : List UInt8) (l : List (Tok × Value)) (s : ByteArray) (k : Nat) (w : World) (hs : s.size ≤ 3000) (h : Rd w B r b rawv outv raw l) (hT : IsText w b s k) (hB : B ≤ w.heap.size) (hraw : raw.length ≤ 3000) (hl : l.length ≤ 90000)
    (hk : k + 1 ≤ s.size) (hst : stAt s k [60] = true) :
    Calls Tryz.prog 153 #[.pointer (some ⟨r, 0, none⟩)] w fun e w' =>
      ((∃ k' raw' rawv' outv' l', openL s.data.toList k raw (l.map (·.1)) = some (k', raw', l'.map (·.1)) ∧ e = .returned (.tuple #[]) ∧ Rd w' B r b rawv' outv' raw' l' ∧ IsText w' b s k') ∨
       (openL s.data.toList k raw (l.map (·.1)) = none ∧ e = .panicked gave ∧ Rd w' B r b rawv outv raw l ∧ ∃ j, IsText w' b s j)) ∧ Keeps (b :: touch r rawv outv) w w' := by
  have hne := h.ne hT
  have hbt := h.text_touch hT
  have hlen := len_size s
  have htn := hide (tagName_any r b rawv outv s ⟨#[60]⟩ k w hs (by decide) h.reader hT h.max hk hst _ rfl)
  have hLl := takeWhile_le tagN s (k + 1) hk
  have hsz : (⟨#[60]⟩ : ByteArray).size = 1 := rfl
  rw [hsz] at htn
  unfold openL
  rw [hlen]
  generalize (s.data.toList.drop (k + 1)).takeWhile tagN = N at *
  have hin := hide (fun w => isName_any ⟨(lowerL N).toArray⟩ w (by rw [str_size]; simp [lowerL]; omega))
  rw [str_list] at hin
  generalize lowerL N = NN at *
  have hats := hide (fun (w : World) hR hT => attrs_any r b rawv outv s (k + 1 + N.length) w hs hR hT hLl)
  generalize attrsAt s.data.toList (s.size + 1) (k + 1 + N.length) [] = A at *
  clear hst
  go_enter Tryz.func153, Tryz.ntmps153
  go_wp2_with fail
  refine htn.out.mono ?_
  rintro e w1 ⟨rfl, hT1, hk1⟩
  have h1 := h.keepsText hT hk1
  have hB1 := Nat.le_trans hB hk1.size
  go_wp2_with fail
  refine (hats.out _ h1.reader hT1).mono ?_
  rintro e w2 ⟨⟨a, k2, v, hA, rfl, ho2, hal, hlt2, hgt, hT2⟩ | ⟨hA, rfl, j, hT2⟩, hk2⟩
  · have h2 := h1.keepsText hT1 hk2
    have hB2 := Nat.le_trans hB1 hk2.size
    have c2 := h2.reader.cell0
    subst hA
    have ho2' : w2.ownsRow B 52 2 v a.length (pairCells a) := ho2.mono (by omega)
    obtain ⟨o, c, rfl⟩ := row_form ho2'
    clear ho2 hal hgt
    go_wp2_with fail
    refine (one_yes b s k2 _ hs hT2 hlt2).mono ?_
    rintro e w3 ⟨rfl, hT3, hk3⟩
    have h3 := h2.keepsText hT2 hk3
    have hB3 := Nat.le_trans hB2 hk3.size
    have ho3 : w3.ownsRow B 52 2 (.slice o a.length c) a.length (pairCells a) := hk3.owns ho2' (fun g hg hm => by
      simp at hm
      subst hm
      exact block_ne ho2' hT2 (by decide) hg)
    have hkw : Keeps [b] w w3 := (hk1.trans hk2).trans hk3
    clear c2
    go_wp2_with fail
    refine (hin.out _).mono ?_
    rintro e w4 ⟨rfl, rfl⟩
    cases hnm : isNameL NN
    · go_wp2_with fail
      go_end0
      exact ⟨⟨_, _, _, _, l, ⟨rfl, rfl, rfl⟩, rfl, h3, hT3⟩, keeps_text hkw⟩
    · go_wp2_with fail
      refine (put_tok B r b rawv outv raw l _ h3 hB3 hraw hl 2 NN [] a o a.length c ho3).mono ?_
      rintro e w5 ⟨rfl, rawv', outv', h5, hk5⟩
      go_wp2_with fail
      go_end0
      refine ⟨⟨_, [], _, _, _, ⟨rfl, rfl, ?_⟩, rfl, h5, hT3.keeps hk5 hbt⟩, (keeps_text hkw).trans (keeps_touch hk5)⟩
      simp [endToks_map]
  · subst hA
    go_wp2_with fail
    exact ⟨rfl, ⟨rfl, h1.keepsText hT1 hk2, j, hT2⟩, keeps_text (hk1.trans hk2)⟩
set_option maxRecDepth 4000 in
set_option maxHeartbeats 4000000 in
theorem closeTag_any (B r b : Nat) (rawv outv : Value) (raw : List UInt8) (l : List (Tok × Value)) (s : ByteArray) (k : Nat) (w : World) (hs : s.size ≤ 3000) (h : Rd w B r b rawv outv raw l) (hT : IsText w b s k) (hB : B ≤ w.heap.size) (hraw : raw.length ≤ 3000) (hl : l.length ≤ 90000)
    (hk : k + 2 ≤ s.size) (hst : stAt s k [60, 47] = true) :
    Calls Tryz.prog 154 #[.pointer (some ⟨r, 0, none⟩)] w fun e w' =>
      ((∃ k' raw' rawv' outv' l', closeL s.data.toList k raw (l.map (·.1)) = some (k', raw', l'.map (·.1)) ∧ e = .returned (.tuple #[]) ∧ Rd w' B r b rawv' outv' raw' l' ∧ IsText w' b s k') ∨
       (closeL s.data.toList k raw (l.map (·.1)) = none ∧ e = .panicked gave ∧ Rd w' B r b rawv outv raw l ∧ ∃ j, IsText w' b s j)) ∧ Keeps (b :: touch r rawv outv) w w' := by
  have hne := h.ne hT
  have hbt := h.text_touch hT
  have hlen := len_size s
  have htn := hide (tagName_any r b rawv outv s ⟨#[60, 47]⟩ k w hs (by decide) h.reader hT h.max hk hst _ rfl)
  have hLl := takeWhile_le tagN s (k + 2) hk
  have hsz : (⟨#[60, 47]⟩ : ByteArray).size = 2 := rfl
  rw [hsz] at htn
  unfold closeL
  generalize (s.data.toList.drop (k + 2)).takeWhile tagN = N at *
  have hin := hide (fun w => isName_any ⟨(lowerL N).toArray⟩ w (by rw [str_size]; simp [lowerL]; omega))
  rw [str_list] at hin
  generalize lowerL N = NN at *
  have hpt := hide (fun (w : World) hT hM => passTo_any b s (k + 2 + N.length) ⟨#[62]⟩ w hs (by decide) hT hLl hM)
  rw [show (⟨#[62]⟩ : ByteArray).data.toList = [62] from rfl] at hpt
  generalize endOf [62] (s.data.toList.drop (k + 2 + N.length)) = A at *
  clear hst
  go_enter Tryz.func154, Tryz.ntmps154
  go_wp2_with fail
  refine htn.out.mono ?_
  rintro e w1 ⟨rfl, hT1, hk1⟩
  have h1 := h.keepsText hT hk1
  have hB1 := Nat.le_trans hB hk1.size
  have c1 := h1.reader.cell0
  go_wp2_with fail
  refine (hpt.out _ hT1 h1.max).mono ?_
  rintro e w2 ⟨⟨m, hA, rfl, hT2⟩ | ⟨hA, rfl, hT2⟩, hk2⟩
  · have h2 := h1.keepsText hT1 hk2
    have hB2 := Nat.le_trans hB1 hk2.size
    subst hA
    have hkw : Keeps [b] w w2 := hk1.trans hk2
    clear c1
    go_wp2_with fail
    refine (hin.out _).mono ?_
    rintro e w4 ⟨rfl, rfl⟩
    cases hnm : isNameL NN
    · go_wp2_with fail
      go_end0
      exact ⟨⟨_, _, _, _, l, ⟨rfl, rfl, rfl⟩, rfl, h2, hT2⟩, keeps_text hkw⟩
    · go_wp2_with fail
      refine (put_tok B r b rawv outv raw l _ h2 hB2 hraw hl 3 NN [] [] none 0 0 (World.ownsRow_nil _ _ _ _)).mono ?_
      rintro e w5 ⟨rfl, rawv', outv', h5, hk5⟩
      go_wp2_with fail
      go_end0
      refine ⟨⟨_, [], _, _, _, ⟨rfl, rfl, ?_⟩, rfl, h5, hT2.keeps hk5 hbt⟩, (keeps_text hkw).trans (keeps_touch hk5)⟩
      simp [endToks_map]
  · subst hA
    go_wp2_with fail
    exact ⟨rfl, ⟨rfl, h1.keepsText hT1 hk2, _, hT2⟩, keeps_text (hk1.trans hk2)⟩
end Go.Proofs.YtlcljanibjdejaaGreat
namespace Go.Proofs.YtlcljanibjdejaaGreat
open Go.RowKit Go.Maps
/-- Is a mark here, and a letter behind it? -/
def tagAt (s : ByteArray) (k : Nat) (p : ByteArray) : Bool := stAt s k p.data.toList && (decide (k + p.size < s.size) && letterB (byteAt s (k + p.size)))
theorem beg_any (b : Nat) (s : ByteArray) (k : Nat) (p : ByteArray) (w : World) (hT : IsText w b s k) (hk : k ≤ s.size) :
    Calls Tryz.prog 155 #[.pointer (some ⟨b, 0, none⟩), .string p] w fun e w' => e = .returned (.bool (stAt s k p.data.toList)) ∧ IsText w' b s k ∧ Keeps [] w w' :=
  (begins_any b s k p w hT hk).mono fun _ _ ⟨he, _, hw⟩ => ⟨he, by rw [hw]; exact hT, by rw [hw]; exact (Keeps.refl _ _).drewN _⟩
theorem tag_any (r b : Nat) (rawv outv : Value) (s p : ByteArray) (k : Nat) (w : World) (hs : s.size ≤ 3000) (hp : p.size ≤ 3000) (hR : IsReader w r b rawv outv) (hT : IsText w b s k) (hk : k ≤ s.size) :
    Calls Tryz.prog 152 #[.pointer (some ⟨r, 0, none⟩), .string p] w fun e w' => e = .returned (.bool (tagAt s k p)) ∧ IsText w' b s k ∧ Keeps [] w w' :=
  tagBegins_any r b rawv outv s p k w hs hp hR hT hk
/-- What a piece answers. -/
def PieceDone (B r b : Nat) (rawv outv : Value) (raw : List UInt8) (l : List (Tok × Value)) (s : ByteArray) (w : World) (P : Option (Nat × List UInt8 × List Tok)) (e : Ending) (w' : World) : Prop :=
  ((∃ k' raw' rawv' outv' l', P = some (k', raw', l'.map (·.1)) ∧ e = .returned (.tuple #[]) ∧ Rd w' B r b rawv' outv' raw' l' ∧ IsText w' b s k') ∨
   (P = none ∧ e = .panicked gave ∧ Rd w' B r b rawv outv raw l ∧ ∃ j, IsText w' b s j)) ∧ Keeps (b :: touch r rawv outv) w w'
theorem PieceDone.nil {B r b : Nat} {rawv outv : Value} {raw : List UInt8} {l : List (Tok × Value)} {s : ByteArray} {w0 w : World} {P : Option (Nat × List UInt8 × List Tok)} {e : Ending} {w' : World} (h : PieceDone B r b rawv outv raw l s w P e w') (hk : Keeps [] w0 w) : PieceDone B r b rawv outv raw l s w0 P e w' :=
  ⟨h.1, (hk.to (by simp)).trans h.2⟩
theorem st_len {s : ByteArray} {k : Nat} {p : List UInt8} (h : stAt s k p = true) (hk : k ≤ s.size) : k + p.length ≤ s.size := by
  have h' : p <+: s.data.toList.drop k := by unfold stAt at h; simpa using h
  have := h'.length_le
  have hl := len_size s
  rw [List.length_drop] at this
  omega
def comL (l : List UInt8) (k : Nat) (raw : List UInt8) (out : List Tok) : Option (Nat × List UInt8 × List Tok) :=
  match endOf [45, 45, 62] (l.drop (k + 2)) with
  | none => none
  | some m => some (k + 2 + m, raw, out)
def declL (l : List UInt8) (k : Nat) (raw : List UInt8) (out : List Tok) : Option (Nat × List UInt8 × List Tok) :=
  match endOf [62] (l.drop k) with
  | none => none
  | some m => some (k + m, raw, out)
def textL (l : List UInt8) (k : Nat) (raw : List UInt8) (out : List Tok) : Option (Nat × List UInt8 × List Tok) :=
  some (k + 1 + ((l.drop (k + 1)).takeWhile noLt).length, raw ++ [l.getD k 0] ++ (l.drop (k + 1)).takeWhile noLt, out)
set_option maxRecDepth 4000 in
set_option maxHeartbeats 4000000 in
theorem piece_open (B r b : Nat) (rawv outv : Value) (raw : List UInt8) (l : List (Tok × Value)) (s : ByteArray) (k : Nat) (w : World) (hs : s.size ≤ 3000) (h : Rd w B r b rawv outv raw l) (hT : IsText w b s k) (hB : B ≤ w.heap.size) (hraw : raw.length ≤ 3000) (hl : l.length ≤ 90000)
    (hlt : k < s.size) (c1 : tagAt s k ⟨#[60]⟩ = true) :
    Calls Tryz.prog 79 #[.pointer (some ⟨r, 0, none⟩)] w fun e w' => PieceDone B r b rawv outv raw l s w (openL s.data.toList k raw (l.map (·.1))) e w' := by
  have hst : stAt s k [60] = true := by unfold tagAt at c1; simp only [Bool.and_eq_true] at c1; exact c1.1
  have t1 := hide (tag_any r b rawv outv s ⟨#[60]⟩ k w hs (by decide) h.reader hT (by omega))
  rw [c1] at t1
  have HO := hide (fun (w : World) (h : Rd w B r b rawv outv raw l) (hT : IsText w b s k) (hB : B ≤ w.heap.size) => openTag_any B r b rawv outv raw l s k w hs h hT hB hraw hl hlt hst)
  generalize openL s.data.toList k raw (l.map (·.1)) = P at *
  clear c1 hst
  go_enter Tryz.func79, Tryz.ntmps79
  go_wp2_with fail
  refine t1.out.mono ?_
  rintro e w1 ⟨rfl, hT1, hk1⟩
  go_wp2_with fail
  refine (HO.out _ (h.keepsNil hk1) hT1 (Nat.le_trans hB hk1.size)).mono ?_
  rintro e w2 hD
  have hD' : PieceDone B r b rawv outv raw l s w P e w2 := PieceDone.nil hD hk1
  have hD2 := hide hD'
  rcases hD.1 with ⟨_, _, _, _, _, _, rfl, _⟩ | ⟨_, rfl, _⟩
  · clear hD hD'
    go_wp2_with fail
    go_end0
    exact hD2.out
  · clear hD hD'
    go_wp2_with fail
    exact ⟨rfl, hD2.out⟩
set_option maxRecDepth 4000 in
set_option maxHeartbeats 4000000 in
theorem piece_close (B r b : Nat) (rawv outv : Value) (raw : List UInt8) (l : List (Tok × Value)) (s : ByteArray) (k : Nat) (w : World) (hs : s.size ≤ 3000) (h : Rd w B r b rawv outv raw l) (hT : IsText w b s k) (hB : B ≤ w.heap.size) (hraw : raw.length ≤ 3000) (hl : l.length ≤ 90000)
    (hlt : k < s.size) (c1 : tagAt s k ⟨#[60]⟩ = false) (c2 : tagAt s k ⟨#[60, 47]⟩ = true) :
    Calls Tryz.prog 79 #[.pointer (some ⟨r, 0, none⟩)] w fun e w' => PieceDone B r b rawv outv raw l s w (closeL s.data.toList k raw (l.map (·.1))) e w' := by
  have hst : stAt s k [60, 47] = true := by unfold tagAt at c2; simp only [Bool.and_eq_true] at c2; exact c2.1
  have t1 := hide (tag_any r b rawv outv s ⟨#[60]⟩ k w hs (by decide) h.reader hT (by omega))
  have t2 := hide (fun (w : World) hR hT => tag_any r b rawv outv s ⟨#[60, 47]⟩ k w hs (by decide) hR hT (by omega))
  rw [c1] at t1
  rw [c2] at t2
  have HO := hide (fun (w : World) (h : Rd w B r b rawv outv raw l) (hT : IsText w b s k) (hB : B ≤ w.heap.size) => closeTag_any B r b rawv outv raw l s k w hs h hT hB hraw hl (st_len hst (by omega)) hst)
  generalize closeL s.data.toList k raw (l.map (·.1)) = P at *
  clear c1 c2 hst
  go_enter Tryz.func79, Tryz.ntmps79
  go_wp2_with fail
  refine t1.out.mono ?_
  rintro e w1 ⟨rfl, hT1, hk1⟩
  have h1 := h.keepsNil hk1
  go_wp2_with fail
  refine (t2.out _ h1.reader hT1).mono ?_
  rintro e w2 ⟨rfl, hT2, hk2⟩
  have h2 := h1.keepsNil hk2
  go_wp2_with fail
  refine (HO.out _ h2 hT2 (Nat.le_trans hB (Nat.le_trans hk1.size hk2.size))).mono ?_
  rintro e w3 hD
  have hD' : PieceDone B r b rawv outv raw l s w P e w3 := PieceDone.nil hD (hk1.trans hk2)
  have hD2 := hide hD'
  rcases hD.1 with ⟨_, _, _, _, _, _, rfl, _⟩ | ⟨_, rfl, _⟩
  · clear hD hD'
    go_wp2_with fail
    go_end0
    exact hD2.out
  · clear hD hD'
    go_wp2_with fail
    exact ⟨rfl, hD2.out⟩
set_option maxRecDepth 4000 in
set_option maxHeartbeats 4000000 in
theorem piece_comment (B r b : Nat) (rawv outv : Value) (raw : List UInt8) (l : List (Tok × Value)) (s : ByteArray) (k : Nat) (w : World) (hs : s.size ≤ 3000) (h : Rd w B r b rawv outv raw l) (hT : IsText w b s k)
    (hlt : k < s.size) (c1 : tagAt s k ⟨#[60]⟩ = false) (c2 : tagAt s k ⟨#[60, 47]⟩ = false) (c3 : stAt s k [60, 33, 45, 45] = true) :
    Calls Tryz.prog 79 #[.pointer (some ⟨r, 0, none⟩)] w fun e w' => PieceDone B r b rawv outv raw l s w (comL s.data.toList k raw (l.map (·.1))) e w' := by
  have hend : endOf [60, 33] (s.data.toList.drop k) = some 2 := endOf_here (by
    have h' : [60, 33, 45, 45] <+: s.data.toList.drop k := by unfold stAt at c3; simpa using c3
    have : ([60, 33] : List UInt8) <+: s.data.toList.drop k := List.IsPrefix.trans ⟨[45, 45], rfl⟩ h'
    unfold Lib.hasPrefix
    simpa using this)
  have hk4 : k + 4 ≤ s.size := st_len c3 (by omega)
  have t1 := hide (tag_any r b rawv outv s ⟨#[60]⟩ k w hs (by decide) h.reader hT (by omega))
  have t2 := hide (fun (w : World) hR hT => tag_any r b rawv outv s ⟨#[60, 47]⟩ k w hs (by decide) hR hT (by omega))
  have t3 := hide (fun (w : World) hT => beg_any b s k ⟨#[60, 33, 45, 45]⟩ w hT (by omega))
  rw [c1] at t1
  rw [c2] at t2
  rw [show stAt s k (⟨#[60, 33, 45, 45]⟩ : ByteArray).data.toList = true from c3] at t3
  have p1 := hide (fun (w : World) hT hM => passTo_any b s k ⟨#[60, 33]⟩ w hs (by decide) hT (by omega) hM)
  rw [show endOf (⟨#[60, 33]⟩ : ByteArray).data.toList (s.data.toList.drop k) = some 2 from hend] at p1
  have p2 := hide (fun (w : World) hT hM => passTo_any b s (k + 2) ⟨#[45, 45, 62]⟩ w hs (by decide) hT (by omega) hM)
  unfold comL
  rw [show (⟨#[45, 45, 62]⟩ : ByteArray).data.toList = [45, 45, 62] from rfl] at p2
  generalize endOf [45, 45, 62] (s.data.toList.drop (k + 2)) = A at *
  clear c1 c2 c3 hend
  go_enter Tryz.func79, Tryz.ntmps79
  go_wp2_with fail
  refine t1.out.mono ?_
  rintro e w1 ⟨rfl, hT1, hk1⟩
  have h1 := h.keepsNil hk1
  go_wp2_with fail
  refine (t2.out _ h1.reader hT1).mono ?_
  rintro e w2 ⟨rfl, hT2, hk2⟩
  have h2 := h1.keepsNil hk2
  have d2 := h2.reader.cell0
  go_wp2_with fail
  refine (t3.out _ hT2).mono ?_
  rintro e w3 ⟨rfl, hT3, hk3⟩
  have h3 := h2.keepsNil hk3
  have d3 := h3.reader.cell0
  have hk03 := (hk1.trans hk2).trans hk3
  clear d2
  go_wp2_with fail
  refine (p1.out _ hT3 h3.max).mono ?_
  rintro e w4 ⟨⟨m, hm, rfl, hT4⟩ | ⟨hm, _⟩, hk4⟩
  · simp only [Option.some.injEq] at hm
    subst hm
    have h4 := h3.keepsText hT3 hk4
    have d4 := h4.reader.cell0
    clear d3
    go_wp2_with fail
    refine (p2.out _ hT4 h4.max).mono ?_
    have hk04 : Keeps [b] w w4 := (hk03.to (by simp)).trans hk4
    rintro e w5 ⟨⟨m, rfl, rfl, hT5⟩ | ⟨rfl, rfl, hT5⟩, hk5⟩
    · have hD := hide (show PieceDone B r b rawv outv raw l s w (some (k + 2 + m, raw, l.map (·.1))) (.returned (.tuple #[])) w5 from ⟨.inl ⟨_, _, _, _, l, rfl, rfl, h4.keepsText hT4 hk5, hT5⟩, keeps_text (hk04.trans hk5)⟩)
      go_wp2_with fail
      go_end0
      exact hD.out
    · have hD := hide (show PieceDone B r b rawv outv raw l s w none (.panicked gave) w5 from ⟨.inr ⟨rfl, rfl, h4.keepsText hT4 hk5, _, hT5⟩, keeps_text (hk04.trans hk5)⟩)
      go_wp2_with fail
      exact ⟨rfl, hD.out⟩
  · simp at hm
end Go.Proofs.YtlcljanibjdejaaGreat
namespace Go.Proofs.YtlcljanibjdejaaGreat
open Go.RowKit Go.Maps
/-- An ending whose answer is not looked at. -/
def noAns : Ending → Ending
  | .returned _ => .returned (.tuple #[])
  | e => e
theorem decl_fin (B r b : Nat) (rawv outv : Value) (raw : List UInt8) (l : List (Tok × Value)) (s : ByteArray) (k : Nat) (w : World) (w4 : World) (h4 : Rd w4 B r b rawv outv raw l) (hT4 : IsText w4 b s k) (hk : Keeps [] w w4) (x : Nat → Value) (e : Ending) (w5 : World)
    (hx : ((∃ m, endOf [62] (s.data.toList.drop k) = some m ∧ e = .returned (x m) ∧ IsText w5 b s (k + m)) ∨ (endOf [62] (s.data.toList.drop k) = none ∧ e = .panicked gave ∧ IsText w5 b s k)) ∧ Keeps [b] w4 w5) :
    PieceDone B r b rawv outv raw l s w (declL s.data.toList k raw (l.map (·.1))) (noAns e) w5 := by
  unfold declL
  obtain ⟨⟨m, hA, rfl, hT5⟩ | ⟨hA, rfl, hT5⟩, hk5⟩ := hx
  · rw [hA]
    exact ⟨.inl ⟨_, _, _, _, l, rfl, rfl, h4.keepsText hT4 hk5, hT5⟩, keeps_text ((hk.to (by simp)).trans hk5)⟩
  · rw [hA]
    exact ⟨.inr ⟨rfl, rfl, h4.keepsText hT4 hk5, _, hT5⟩, keeps_text ((hk.to (by simp)).trans hk5)⟩
set_option maxRecDepth 4000 in
set_option maxHeartbeats 4000000 in
theorem piece_decl (B r b : Nat) (rawv outv : Value) (raw : List UInt8) (l : List (Tok × Value)) (s : ByteArray) (k : Nat) (w : World) (hs : s.size ≤ 3000) (h : Rd w B r b rawv outv raw l) (hT : IsText w b s k)
    (hlt : k < s.size) (c1 : tagAt s k ⟨#[60]⟩ = false) (c2 : tagAt s k ⟨#[60, 47]⟩ = false) (c3 : stAt s k [60, 33, 45, 45] = false) (c4 : (stAt s k [60, 33] || (stAt s k [60, 63] || stAt s k [60, 47])) = true) :
    Calls Tryz.prog 79 #[.pointer (some ⟨r, 0, none⟩)] w fun e w' => PieceDone B r b rawv outv raw l s w (declL s.data.toList k raw (l.map (·.1))) e w' := by
  have t1 := hide (tag_any r b rawv outv s ⟨#[60]⟩ k w hs (by decide) h.reader hT (by omega))
  have t2 := hide (fun (w : World) hR hT => tag_any r b rawv outv s ⟨#[60, 47]⟩ k w hs (by decide) hR hT (by omega))
  have t3 := hide (fun (w : World) hT => beg_any b s k ⟨#[60, 33, 45, 45]⟩ w hT (by omega))
  have t4 := hide (fun (w : World) hT => beg_any b s k ⟨#[60, 33]⟩ w hT (by omega))
  have t5 := hide (fun (w : World) hT => beg_any b s k ⟨#[60, 63]⟩ w hT (by omega))
  have t6 := hide (fun (w : World) hT => beg_any b s k ⟨#[60, 47]⟩ w hT (by omega))
  rw [c1] at t1
  rw [c2] at t2
  rw [show stAt s k (⟨#[60, 33, 45, 45]⟩ : ByteArray).data.toList = false from c3] at t3
  rw [show (⟨#[60, 33]⟩ : ByteArray).data.toList = [60, 33] from rfl] at t4
  rw [show (⟨#[60, 63]⟩ : ByteArray).data.toList = [60, 63] from rfl] at t5
  rw [show (⟨#[60, 47]⟩ : ByteArray).data.toList = [60, 47] from rfl] at t6
  have p2 := hide (fun (w : World) hT hM => passTo_any b s k ⟨#[62]⟩ w hs (by decide) hT (by omega) hM)
  have FIN := hide (decl_fin B r b rawv outv raw l s k w)
  generalize declL s.data.toList k raw (l.map (·.1)) = P at *
  rw [show (⟨#[62]⟩ : ByteArray).data.toList = [62] from rfl] at p2
  generalize endOf [62] (s.data.toList.drop k) = A at *
  generalize stAt s k [60, 33] = q4 at *
  generalize stAt s k [60, 63] = q5 at *
  generalize stAt s k [60, 47] = q6 at *
  clear c1 c2 c3
  go_enter Tryz.func79, Tryz.ntmps79
  go_wp2_with fail
  refine t1.out.mono ?_
  rintro e w1 ⟨rfl, hT1, hk1⟩
  have h1 := h.keepsNil hk1
  go_wp2_with fail
  refine (t2.out _ h1.reader hT1).mono ?_
  rintro e w2 ⟨rfl, hT2, hk2⟩
  have h2 := h1.keepsNil hk2
  have d2 := h2.reader.cell0
  go_wp2_with fail
  refine (t3.out _ hT2).mono ?_
  rintro e w3 ⟨rfl, hT3, hk3⟩
  have h3 := h2.keepsNil hk3
  have d3 := h3.reader.cell0
  have hk03 := (hk1.trans hk2).trans hk3
  clear d2
  go_wp2_with fail
  refine (t4.out _ hT3).mono ?_
  rintro e w4 ⟨rfl, hT4, hk4⟩
  have h4 := h3.keepsNil hk4
  have d4 := h4.reader.cell0
  have hk04 := hk03.trans hk4
  clear d3
  cases q4
  · go_wp2_with fail
    refine (t5.out _ hT4).mono ?_
    rintro e w5 ⟨rfl, hT5, hk5⟩
    have h5 := h4.keepsNil hk5
    have d5 := h5.reader.cell0
    have hk05 := hk04.trans hk5
    clear d4
    cases q5
    · go_wp2_with fail
      refine (t6.out _ hT5).mono ?_
      rintro e w6 ⟨rfl, hT6, hk6⟩
      have h6 := h5.keepsNil hk6
      have d6 := h6.reader.cell0
      have hk06 := hk05.trans hk6
      have hq6 : q6 = true := by simpa using c4
      subst hq6
      clear d5
      go_wp2_with fail
      refine (p2.out _ hT6 h6.max).mono ?_
      rintro e w7 hx
      have hD := hide (FIN.out _ h6 hT6 hk06 _ e w7 hx)
      rcases hx with ⟨⟨m, _, rfl, _⟩ | ⟨_, rfl, _⟩, _⟩
      · go_wp2_with fail
        go_end0
        exact hD.out
      · go_wp2_with fail
        exact ⟨rfl, hD.out⟩
    · go_wp2_with fail
      refine (p2.out _ hT5 h5.max).mono ?_
      rintro e w7 hx
      have hD := hide (FIN.out _ h5 hT5 hk05 _ e w7 hx)
      rcases hx with ⟨⟨m, _, rfl, _⟩ | ⟨_, rfl, _⟩, _⟩
      · go_wp2_with fail
        go_end0
        exact hD.out
      · go_wp2_with fail
        exact ⟨rfl, hD.out⟩
  · go_wp2_with fail
    refine (p2.out _ hT4 h4.max).mono ?_
    rintro e w7 hx
    have hD := hide (FIN.out _ h4 hT4 hk04 _ e w7 hx)
    rcases hx with ⟨⟨m, _, rfl, _⟩ | ⟨_, rfl, _⟩, _⟩
    · go_wp2_with fail
      go_end0
      exact hD.out
    · go_wp2_with fail
      exact ⟨rfl, hD.out⟩
end Go.Proofs.YtlcljanibjdejaaGreat
