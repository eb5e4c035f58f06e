/- endText and put. -/
import Derived.Test.YtngojdajamgababGreatReader
import Derived.Maps.AppendAt
namespace Go.Proofs.YtngojdajamgababGreat
open Go.RowKit Go.Maps

theorem enters75 : Enters 75 := enters_of Tryz.func75 (by kernel_rfl) (by kernel_rfl)
theorem info43 : (Tryz.prog.info? 48).map (fun i => (i.zero, i.size, i.bytes)) = some (some (.agg #[.int .i64 0, .string ⟨#[]⟩, .slice none 0 0, .string ⟨#[]⟩]), 4, 64) := by kernel_rfl

/-- A text token. -/
def textTok (t : List UInt8) : Tok := ⟨1, [], [], t⟩

/-- What may be touched when tokens are put. -/
def touch (r : Nat) (rawv outv : Value) : List Nat := r :: (rawv.ownBlock.toList ++ outv.ownBlock.toList)

theorem lit_cells (w : World) (cs : Array Value) (t : TypeId) (j : Nat) (u : Value) (h : cs.toList[j]? = some u) : (w.alloc (.cells cs t)).cell? ((⟨w.heap.size, 0, none⟩ : Addr).add j) = some u := by
  rw [add_zero]
  have hh := heap_alloc_new w (.cells cs t)
  have h' : cs[j]? = some u := by simpa using h
  simp only [World.cell?]
  rw [hh]
  exact h'

theorem IsReader.blk {w : World} {r b : Nat} {rawv outv : Value} (h : IsReader w r b rawv outv) : w.heap[r]? = some (.cells #[.pointer (some ⟨b, 0, none⟩), rawv, outv] 74 (0, 0)) := h
theorem row_form {w : World} {B : Nat} {e : TypeId} {z : Nat} {v : Value} {n : Nat} {xs : List Value} (h : w.ownsRow B e z v n xs) : ∃ o c, v = .slice o n c := by
  rcases h.2 with ⟨rfl, h0⟩ | ⟨g, cap, cur, rfl, _⟩
  · exact ⟨none, 0, by rw [h0]⟩
  · exact ⟨_, _, rfl⟩

theorem IsReader.set2 {w : World} {r b : Nat} {rawv outv : Value} (h : IsReader w r b rawv outv) (v : Value) : IsReader (w.setCell ⟨r, 2, none⟩ v) r b rawv v := by
  simp [World.setCell, IsReader, Array.getElem?_modify] at h ⊢; simp [h]
theorem IsReader.set1 {w : World} {r b : Nat} {rawv outv : Value} (h : IsReader w r b rawv outv) (v : Value) : IsReader (w.setCell ⟨r, 1, none⟩ v) r b v outv := by
  simp [World.setCell, IsReader, Array.getElem?_modify] at h ⊢; simp [h]

theorem set_row {w : World} {B : Nat} {e : TypeId} {z : Nat} {v : Value} {n : Nat} {xs : List Value} (h : w.ownsRow B e z v n xs) {a : Addr} (ha : v.ownBlock ≠ some a.block) (u : Value) : (w.setCell a u).ownsRow B e z v n xs :=
  ((Keeps.refl [a.block] w).setCell (.inl (by simp)) u).owns h (fun g hg => by
    intro hm
    simp at hm
    subst hm
    exact ha hg)

theorem Rd.outReader {w w3 : World} {B r b : Nat} {rawv outv : Value} {raw : List UInt8} {l : List (Tok × Value)} (h : Rd w B r b rawv outv raw l) (hk : Keeps outv.ownBlock.toList w w3) : IsReader w3 r b rawv outv :=
  h.reader.keeps hk (fun hm => block_ne h.out h.reader.blk (by decide) (by simpa using hm))

/-- A token is put behind the others. -/
theorem Rd.grow {w w3 : World} {B r b : Nat} {rawv outv : Value} {raw : List UInt8} {l : List (Tok × Value)} (h : Rd w B r b rawv outv raw l) (hk : Keeps outv.ownBlock.toList w w3) {v3 : Value} {p : Tok × Value} (ho : w3.ownsRow B 48 4 v3 (l.length + 1) (outCells l ++ tokCells p)) (hp : HasAttrs w3 B p) :
    Rd (w3.setCell ⟨r, 2, none⟩ v3) B r b rawv v3 raw (l ++ [p]) ∧ Keeps (touch r rawv outv) w (w3.setCell ⟨r, 2, none⟩ v3) := by
  have hR3 := h.outReader hk
  have hraw3 := hk.owns h.raw (fun g hg hm => rows_apart h.raw h.out (by decide) hg (by simpa using hm))
  have hat3 : ∀ q ∈ l, HasAttrs w3 B q := fun q hq => hk.owns (h.attrs q hq) (fun g hg hm => rows_apart (h.attrs q hq) h.out (by decide) hg (by simpa using hm))
  have hpos := h.pos
  have hk' : Keeps (touch r rawv outv) w (w3.setCell ⟨r, 2, none⟩ v3) := (hk.to (fun i hi => by simp [touch] at hi ⊢; exact .inr (.inr hi))).setCell (.inl (by simp [touch])) _
  refine ⟨⟨hR3.set2 v3, set_row hraw3 (block_ne hraw3 hR3.blk (by decide)) _, ?_, ?_, ?_, h.pos, h.hr, h.hb⟩, hk'⟩
  · rw [outCells_add, List.length_append]
    exact set_row ho (block_ne ho hR3.blk (by decide)) _
  · intro q hq
    rcases List.mem_append.1 hq with hq | hq
    · exact set_row (hat3 q hq) (block_ne (hat3 q hq) hR3.blk (by decide)) _
    · simp at hq
      subst hq
      exact set_row hp (block_ne hp hR3.blk (by decide)) _
  · refine h.max.keeps hk' ?_
    intro hm
    have := h.hr
    simp [touch] at hm
    rcases hm with hm | hm | hm
    · omega
    · have := (h.raw.lt _ hm).1; omega
    · have := (h.out.lt _ hm).1; omega

/-- An append of a slice's cells onto a row that the call owns; where the row lies then. -/
theorem step_own_at {P : Program} {ops : Array Oper} {o : Oper} {a : Act} {w : World} {K : Act → World → Prop} {Q : Exit → Act → World → Prop} {E : Prop} (hg : o.guard = none) (s x : Operand) (t : TypeId)
    (ho : o.op = .call { callee := .builtin .append, args := #[s, x], argTypes := #[t, t] })
    (base : Nat) (e : TypeId) (i : TypeInfo) (z : Value) (size bytes : Nat) (ht : P.underlying t = some (.slice e)) (hi : P.info? e = some i) (hz : i.zero = some z)
    (hsize : i.size = size) (hby : i.bytes = bytes) (hzs : z.cells.size = size) (hsz : 0 < size)
    (v : Value) (n : Nat) (xs : List Value) (hs : a.eval s = v) (hown : w.ownsRow base e size v n xs)
    (ad : Addr) (m c : Nat) (news : List Value) (hx : a.eval x = .slice (some ad) m c) (hl : news.length = m * size) (hnews : ∀ j u, news[j]? = some u → w.cell? (ad.add j) = some u) (h1 : ∀ u ∈ news, u.oneCell' = true)
    (h63 : n + m ≤ maxLen) (hbytes : (n + m) * bytes ≤ 140737488355328) (hbase : base ≤ w.heap.size)
    (h : ∀ v' w', w'.ownsRow base e size v' (n + m) (xs ++ news) → w.grownBy w' v.ownBlock → (v'.ownBlock = v.ownBlock ∨ v'.ownBlock = some w.heap.size) → K (a.put o.dst v') w') :
    if Region.wanted o (yielded ops a.tmps) = true then Oper.wp P o a w K Q else E := by
  refine step_is hg ?_
  obtain ⟨v', w', hr, h2, h3, _, h5⟩ := run_append_own_at (P := P) w base t o.type e i z size bytes ht hi hz hsize hby hzs hsz v n xs hown ad m c news hl hnews h1 h63 hbytes hbase
  unfold Oper.wp execOp
  simp only [ho, resolve, invoke, builtin, Sem.run_bind, Sem.run_pure, Result.andThen_ok, List.map_toArray, List.map_cons, List.map_nil, hs, hx, hr]
  exact h v' w' h2 h3 h5

/-- What is touched anew is what was touched, or is new. -/
def Within (w : World) (S T : List Nat) : Prop := ∀ i, i ∈ S → i < w.heap.size → i ∈ T
theorem Within.refl (w : World) (S : List Nat) : Within w S S := fun _ h _ => h
theorem Keeps.within {S T : List Nat} {a w w' : World} (h : Keeps T a w) (k : Keeps S w w') (hS : Within a S T) : Keeps T a w' :=
  ((h.to (T := S ++ T) (by simp; exact fun _ h => .inr h)).trans (k.to (by simp; exact fun _ h => .inl h))).mono fun i hi hlt => by
    rcases List.mem_append.1 hi with hi | hi
    · exact hS i hi hlt
    · exact hi

theorem within_out {w : World} {r : Nat} {rawv outv outv' : Value} {n : Nat} (h : outv'.ownBlock = outv.ownBlock ∨ outv'.ownBlock = some n) (hn : w.heap.size ≤ n) : Within w (touch r rawv outv') (touch r rawv outv) := by
  intro i hi hlt
  simp [touch] at hi ⊢
  rcases hi with hi | hi | hi
  · exact .inl hi
  · exact .inr (.inl hi)
  · rcases h with h | h
    · rw [h] at hi; exact .inr (.inr hi)
    · rw [h] at hi; simp at hi; omega
theorem within_raw {w : World} {r : Nat} {rawv rawv' outv : Value} {n : Nat} (h : rawv'.ownBlock = rawv.ownBlock ∨ rawv'.ownBlock = some n) (hn : w.heap.size ≤ n) : Within w (touch r rawv' outv) (touch r rawv outv) := by
  intro i hi hlt
  simp [touch] at hi ⊢
  rcases hi with hi | hi | hi
  · exact .inl hi
  · rcases h with h | h
    · rw [h] at hi; exact .inr (.inl hi)
    · rw [h] at hi; simp at hi; omega
  · exact .inr (.inr hi)

theorem Rd.touch0 {w : World} {B r b : Nat} {rawv outv : Value} {raw : List UInt8} {l : List (Tok × Value)} (h : Rd w B r b rawv outv raw l) : 0 ∉ touch r rawv outv := by
  intro hm
  have := h.hr
  have := h.pos
  simp [touch] at hm
  rcases hm with hm | hm | hm
  · omega
  · have := (h.raw.lt _ hm).1; omega
  · have := (h.out.lt _ hm).1; omega

theorem Rd.touch_lt {w : World} {B r b : Nat} {rawv outv : Value} {raw : List UInt8} {l : List (Tok × Value)} (h : Rd w B r b rawv outv raw l) : ∀ i, i ∈ touch r rawv outv → i < w.heap.size := by
  intro i hm
  simp [touch] at hm
  rcases hm with hm | hm | hm
  · rw [hm]; exact h.reader.lt
  · exact (h.raw.lt _ hm).2
  · exact (h.out.lt _ hm).2

/-- The text that isn't taken yet is another. -/
theorem Rd.setRaw {w w3 : World} {B r b : Nat} {rawv outv : Value} {raw : List UInt8} {l : List (Tok × Value)} (h : Rd w B r b rawv outv raw l) (hk : Keeps rawv.ownBlock.toList w w3) {v3 : Value} {raw3 : List UInt8} (ho : w3.ownsRow B 5 1 v3 raw3.length (Lib.byteCells raw3)) :
    Rd (w3.setCell ⟨r, 1, none⟩ v3) B r b v3 outv raw3 l ∧ Keeps (touch r rawv outv) w (w3.setCell ⟨r, 1, none⟩ v3) := by
  have hR3 : IsReader w3 r b rawv outv := h.reader.keeps hk (fun hm => block_ne h.raw h.reader.blk (by decide) (by simpa using hm))
  have hout3 := hk.owns h.out (fun g hg hm => rows_apart h.out h.raw (by decide) hg (by simpa using hm))
  have hat3 : ∀ q ∈ l, HasAttrs w3 B q := fun q hq => hk.owns (h.attrs q hq) (fun g hg hm => rows_apart (h.attrs q hq) h.raw (by decide) hg (by simpa using hm))
  have hk' : Keeps (touch r rawv outv) w (w3.setCell ⟨r, 1, none⟩ v3) := (hk.to (fun i hi => by simp [touch] at hi ⊢; exact .inr (.inl hi))).setCell (.inl (by simp [touch])) _
  exact ⟨⟨hR3.set1 v3, set_row ho (block_ne ho hR3.blk (by decide)) _, set_row hout3 (block_ne hout3 hR3.blk (by decide)) _, fun q hq => set_row (hat3 q hq) (block_ne (hat3 q hq) hR3.blk (by decide)) _, h.max.keeps hk' h.touch0, h.pos, h.hr, h.hb⟩, hk'⟩

theorem row_zero {w : World} {B : Nat} {e : TypeId} {z g cap n : Nat} {xs : List Value} (h : w.ownsRow B e z (.slice (some ⟨g, 0, none⟩) n cap) n xs) : w.ownsRow B e z (.slice (some ⟨g, 0, none⟩) 0 cap) 0 [] := by
  rcases h.2 with ⟨h1, _⟩ | ⟨g', cap', cur, he, h2, h3, h4, h5, h6, h7⟩
  · simp at h1
  · simp at he
    obtain ⟨rfl, rfl⟩ := he
    exact ⟨by simp, .inr ⟨g, cap, cur, rfl, h2, h3, Nat.zero_le _, h5, h6, by simp⟩⟩

set_option maxRecDepth 4000 in
set_option maxHeartbeats 4000000 in
theorem endText_some (B r b : Nat) (rawv outv : Value) (raw : List UInt8) (l : List (Tok × Value)) (w : World) (h : Rd w B r b rawv outv raw l) (hB : B ≤ w.heap.size) (hne : raw ≠ []) (hraw : raw.length ≤ 3000) (hl : l.length ≤ 100000) :
    Calls Tryz.prog 46 #[.pointer (some ⟨r, 0, none⟩)] w fun e w' =>
      e = .returned (.tuple #[]) ∧ ∃ rawv' outv', Rd w' B r b rawv' outv' [] (l ++ [(textTok (takeL raw).1, .slice none 0 0)]) ∧ Keeps (touch r rawv outv) w w' ∧ Within w (touch r rawv' outv') (touch r rawv outv) := by
  have hlen : ((raw.length : Int) == 0) = false := by
    have : raw.length ≠ 0 := fun e => hne (List.eq_nil_of_length_eq_zero e)
    simp; omega
  have c1 := h.reader.cell1
  have c2 := h.reader.cell2
  obtain ⟨g, cap, cur, hrv, hgb, hgc, hcap1, hcap2, hcur1, hcur2⟩ : ∃ g cap cur, rawv = .slice (some ⟨g, 0, none⟩) raw.length cap ∧ B ≤ g ∧ w.heap[g]? = some (.cells cur 5 (0, 0)) ∧ raw.length ≤ cap ∧ cap ≤ maxLen ∧ cur.size = cap * 1 ∧ cur.toList.take (raw.length * 1) = Lib.byteCells raw := by
    rcases h.raw.2 with ⟨_, h0⟩ | h'
    · exact absurd (List.eq_nil_of_length_eq_zero h0) hne
    · exact h'
  subst hrv
  have hcv : (convert 43 9 (.slice (some ⟨g, 0, none⟩) raw.length cap)).run Tryz.prog w.drew = .ok (.string ⟨raw.toArray⟩) w.drew := own_string (w := w.drew) h.raw.drew 0
  have htak := hide (fun w => tak_any ⟨raw.toArray⟩ w hraw)
  rw [str_list] at htak
  obtain ⟨T, hTT⟩ : ∃ T, (takeL raw).1 = T := ⟨_, rfl⟩
  rw [hTT] at htak ⊢
  clear hTT
  obtain ⟨i0, hi, hz0, hz1, hz2⟩ := info_parts info43
  clear hcur1 hcur2
  go_enter Tryz.func46, Tryz.ntmps46
  go_upto_region 1 with fail
  go_cut [] from 8 to 23 (fun wc => ∃ outv', Rd wc B r b (.slice (some ⟨g, 0, none⟩) raw.length cap) outv' raw (l ++ [(textTok T, .slice none 0 0)]) ∧ Keeps (touch r (.slice (some ⟨g, 0, none⟩) raw.length cap) outv) w wc ∧ Within w (touch r (.slice (some ⟨g, 0, none⟩) raw.length cap) outv') (touch r (.slice (some ⟨g, 0, none⟩) raw.length cap) outv))
  case first =>
    go_region_law (first
      | (refine step_call rfl 75 _ _ rfl enters75 #[.string ⟨raw.toArray⟩] (by simp [Act.eval]) (htak.out _) ?_; rintro e w2 ⟨rfl, hk2⟩; refine ⟨_, rfl, ?_⟩; have hR2 := h.reader.keeps (keeps_drew hk2) List.not_mem_nil; have d2 := hR2.cell2; have d2a : ∀ o, (w2.alloc o).cell? ⟨r, 2, none⟩ = some outv := fun o => (cell_past (a := ⟨r, 2, none⟩) hR2.lt o).trans d2)
      | (refine step_own_at rfl _ _ 22 rfl B 48 i0 _ 4 64 Tryz.underlying22 hi hz0 hz1 hz2 (by kernel_rfl) (by decide) outv l.length (outCells l) rfl (((keeps_drew hk2).owns h.out (fun _ _ => List.not_mem_nil)).alloc _) ⟨w2.heap.size, 0, none⟩ 1 1 (tokCells (textTok T, .slice none 0 0)) rfl rfl (lit_cells w2 _ 48) (by intro u hu; simp [tokCells] at hu; rcases hu with rfl | rfl | rfl | rfl <;> rfl) (by unfold maxLen; omega) (by omega) (Nat.le_trans hB (Nat.le_trans hk2.size (by simp))) ?_; intro v3 w3 ho3 hg3 hw3; obtain ⟨o3, c3, rfl⟩ := row_form ho3; have hk3 : Keeps outv.ownBlock.toList w w3 := ((keeps_drew hk2).up.alloc _).grown hg3 (fun i e => .inl (by simp [e])); have hR3 := h.outReader hk3; have d3 := hR3.cell2; have f3 := hR3.free))
    all_goals go_wp2
    all_goals go_meet
    all_goals exact ⟨_, (h.grow hk3 ho3 (World.ownsRow_nil _ _ _ _)).1, (h.grow hk3 ho3 (World.ownsRow_nil _ _ _ _)).2, within_out hw3 (Nat.le_trans hk2.size (by simp))⟩
  case rest =>
    obtain ⟨outv', h', hk', hw'⟩ := hcut
    have e1 := h'.reader.cell1
    have f1 := h'.reader.free
    clear c1 c2 hcv
    go_wp2_with fail
    go_end0
    exact ⟨rfl, _, _, (h'.setRaw (Keeps.refl _ _) (raw3 := []) (row_zero h'.raw)).1, hk'.setCell (.inl (by simp [touch])) _, fun i hi hlt => hw' i (by simpa [touch, Value.ownBlock] using hi) hlt⟩

/-- The text that isn't taken yet, as a token. -/
def endToks (raw : List UInt8) : List (Tok × Value) := if raw = [] then [] else [(textTok (takeL raw).1, .slice none 0 0)]

set_option maxHeartbeats 1000000 in
theorem endText_any (B r b : Nat) (rawv outv : Value) (raw : List UInt8) (l : List (Tok × Value)) (w : World) (h : Rd w B r b rawv outv raw l) (hB : B ≤ w.heap.size) (hraw : raw.length ≤ 3000) (hl : l.length ≤ 100000) :
    Calls Tryz.prog 46 #[.pointer (some ⟨r, 0, none⟩)] w fun e w' =>
      e = .returned (.tuple #[]) ∧ ∃ rawv' outv', Rd w' B r b rawv' outv' [] (l ++ endToks raw) ∧ Keeps (touch r rawv outv) w w' ∧ Within w (touch r rawv' outv') (touch r rawv outv) := by
  by_cases hne : raw = []
  · subst hne
    have c1 := h.reader.cell1
    obtain ⟨o, c, ho⟩ := row_form h.raw
    subst ho
    have e0 : endToks [] = [] := rfl
    rw [e0, List.append_nil]
    go_enter Tryz.func46, Tryz.ntmps46
    go_wp2_with fail
    refine bodyPost_ret (v := .tuple #[]) (by simp [results, Tryz.results46]) rfl ?_
    exact ⟨rfl, _, _, h, Keeps.refl _ _, Within.refl _ _⟩
  · have e0 : endToks raw = [(textTok (takeL raw).1, .slice none 0 0)] := if_neg hne
    rw [e0]
    exact endText_some B r b rawv outv raw l w h hB hne hraw hl
end Go.Proofs.YtngojdajamgababGreat
