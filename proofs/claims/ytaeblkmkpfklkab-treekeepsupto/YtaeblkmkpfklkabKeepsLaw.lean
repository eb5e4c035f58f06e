/- A slice of tokens that came in: what is read of it lies there ('Toks'), and how much it is. TreeKeeps' walk: no text is lost. -/
import Derived.Test.YtaeblkmkpfklkabTreeS
import Derived.Deep.SlicePairs
namespace Go.Proofs.Ytaeblkmkpfklkab
open Go.RowKit Go.Maps Go.Deep

def bulkP (l : List Pair) : Nat := (l.map fun p => p.1.length + p.2.length + 2).sum
def bulkT (t : Tok) : Nat := t.name.length + t.text.length + bulkP t.attrs + 4
def bulkL (l : List Tok) : Nat := (l.map bulkT).sum

theorem str_backA (s : ByteArray) : (⟨s.data.toList.toArray⟩ : ByteArray) = s := WideShapes.bytes_inj (by simp)

theorem addr_plain {w : World} {a : Addr} {u : Value} (h : w.cell? a = some u) : ∃ g o, a = ⟨g, o, none⟩ := by
  obtain ⟨g, o, f⟩ := a
  cases f with
  | none => exact ⟨g, o, rfl⟩
  | some x =>
    unfold World.cell? at h
    simp only [Option.isSome_some, if_true] at h
    split at h <;> simp at h

theorem lies_of {w : World} {a : Addr} {len cap z : Nat} (hz : 0 < z) (hl : len ≤ cap) (hc : cap ≤ maxLen) {xs : List Value} (hx : xs.length = len * z) (h : ∀ j u, xs[j]? = some u → w.cell? (a.add j) = some u) : Lies w (.slice (some a) len cap) len z xs := by
  refine ⟨hx, ?_⟩
  by_cases h0 : len = 0
  · subst h0
    exact .inr (.inr ⟨rfl, _, _, rfl, hc⟩)
  · have hpos : 0 < xs.length := by rw [hx]; exact Nat.mul_pos (by omega) hz
    have h1 := h 0 _ (List.getElem?_eq_getElem hpos)
    have e0 : a.add 0 = a := by simp [Addr.add]
    rw [e0] at h1
    obtain ⟨g, o, rfl⟩ := addr_plain h1
    refine .inr (.inl ⟨g, o, cap, rfl, hl, hc, fun j u hj => ?_⟩)
    have h2 := h j u hj
    have e1 : (⟨g, o, none⟩ : Addr).add j = ⟨g, o + j, none⟩ := by by_cases hj0 : j = 0 <;> simp [Addr.add, hj0]
    rw [e1] at h2
    exact h2

theorem four {α : Type} {l : List α} (h : l.length = 4) : ∃ a b c d, l = [a, b, c, d] := by
  match l, h with
  | [a, b, c, d], _ => exact ⟨a, b, c, d, rfl⟩

section
variable {H : Type} {enc : TypeId × Value → H} {w : World} {base : Nat} {spare : Nat → Bool} {held : Bool}

theorem bulkAll_map {α : Type} (f : α → DataW H) (g : α → Nat) (hfg : ∀ x, g x ≤ Rows.uptoBulk (f x)) (l : List α) : (l.map g).sum ≤ Rows.uptoBulkAll (l.map f) := by
  induction l with
  | nil => simp
  | cons x l ih =>
    have := hfg x
    simp only [List.map_cons, List.sum_cons, Rows.uptoBulkAll]
    omega

theorem attrs_down {n : Nat} {v : Value} {x : DataW H × List MemPlace} (h : DataW.trod enc Try.prog w base spare held n 28 [v] = some x) : ∃ la : List Pair, Lies w v la.length 2 (pairCells la) ∧ bulkP la ≤ Rows.uptoBulk x.1 := by
  rcases open_slice_pairs Try.underlying28 Try.underlying27 (by kernel_rfl) rfl rfl (by kernel_rfl) (by kernel_rfl) h with ⟨hv, _⟩ | ⟨a, len, cap, m, n', V0, V1, D0, D1, P0, P1, hv, _, hl, hm, hmm, rfl, hx⟩
  · simp at hv
    subst hv
    exact ⟨[], ⟨rfl, .inl ⟨rfl, rfl⟩⟩, by simp [bulkP]⟩
  · simp at hv
    subst hv
    have hlm : len ≤ m := by rw [hmm]; split <;> omega
    have each : ∀ i, i < len → ∃ q : Pair, w.cell? (a.add (i * 2)) = some (.string ⟨q.1.toArray⟩) ∧ w.cell? (a.add (i * 2 + 1)) = some (.string ⟨q.2.toArray⟩) ∧ D0 i = .lit (.string q.1) ∧ D1 i = .lit (.string q.2) := by
      intro i hi
      obtain ⟨h0, h1, h2, h3⟩ := hx i (by omega)
      obtain ⟨s0, e0, f0, _⟩ := DataW.trod_string Try.underlying9 h2
      obtain ⟨s1, e1, f1, _⟩ := DataW.trod_string Try.underlying9 h3
      simp at e0 e1 f0 f1
      refine ⟨(s0.data.toList, s1.data.toList), ?_, ?_, f0.1, f1.1⟩
      · rw [str_backA, h0, e0]
      · rw [str_backA, h1, e1]
    obtain ⟨q, hq⟩ := choose_lt each
    refine ⟨(List.range len).map q, ?_, ?_⟩
    · rw [List.length_map, List.length_range]
      refine lies_of (by decide) hl hm (by rw [pairCells_len]; simp) fun j u hj => ?_
      have hj2 : j < len * 2 := by
        have := (List.getElem?_eq_some_iff.1 hj).1
        rw [pairCells_len] at this
        simpa using this
      have hi : j / 2 < ((List.range len).map q).length := by simp; omega
      have hi' : j / 2 < len := by omega
      have hel : ((List.range len).map q)[j / 2] = q (j / 2) := by simp
      rcases Nat.mod_two_eq_zero_or_one j with hr | hr
      · have := pair_at0 ((List.range len).map q) (j / 2) hi
        rw [show j / 2 * 2 = j from by omega, hj, hel] at this
        rw [this]
        have h9 := (hq (j / 2) hi').1
        rwa [show j / 2 * 2 = j from by omega] at h9
      · have := pair_at1 ((List.range len).map q) (j / 2) hi
        rw [show j / 2 * 2 + 1 = j from by omega, hj, hel] at this
        rw [this]
        have h9 := (hq (j / 2) hi').2.1
        rwa [show j / 2 * 2 + 1 = j from by omega] at h9
    · simp only [Rows.uptoBulk]
      have e : (List.range len).map (fun i => DataW.agg [D0 i, D1 i]) = (List.range len).map (fun i => DataW.agg [.lit (.string (q i).1), .lit (.string (q i).2)]) :=
        List.map_congr_left fun i hi => by rw [(hq i (List.mem_range.1 hi)).2.2.1, (hq i (List.mem_range.1 hi)).2.2.2]
      have hb := bulkAll_map (H := H) (fun i => DataW.agg [.lit (.string (q i).1), .lit (.string (q i).2)]) (fun i => (q i).1.length + (q i).2.length + 2) (fun i => by simp [Rows.uptoBulk, Rows.uptoBulkAll]; omega) (List.range len)
      rw [e]
      have e2 : bulkP ((List.range len).map q) = ((List.range len).map fun i => (q i).1.length + (q i).2.length + 2).sum := by simp [bulkP, Function.comp_def]
      rw [e2]
      omega

set_option maxRecDepth 8000 in
theorem toks_down {n : Nat} {v : Value} {x : DataW H × List MemPlace} (h : DataW.trod enc Try.prog w base spare held n 31 [v] = some x) : ∃ ts : List Tok, Toks w v ts ∧ bulkL ts ≤ Rows.uptoBulk x.1 := by
  rcases open_slice Try.underlying31 h with ⟨hv, _⟩ | ⟨a, len, cap, m, n', D, Pl, hv, _, hl, hm, hmm, rfl, hx⟩
  · simp at hv
    subst hv
    exact ⟨[], ⟨[], rfl, ⟨rfl, .inl ⟨rfl, rfl⟩⟩, by simp⟩, by simp [bulkL]⟩
  · simp at hv
    subst hv
    have hlm : len ≤ m := by rw [hmm]; split <;> omega
    have ce : Try.prog.cellsOf 30 = 4 := by kernel_rfl
    have c3 : Try.prog.cellsOf 3 = 1 := by kernel_rfl
    have c9 : Try.prog.cellsOf 9 = 1 := by kernel_rfl
    have c41 : Try.prog.cellsOf 28 = 1 := by kernel_rfl
    have each : ∀ i, i < len → ∃ q : Tok × Value, (∀ r, r < 4 → w.cell? (a.add (i * 4 + r)) = (tokCells q)[r]?) ∧ Lies w q.2 q.1.attrs.length 2 (pairCells q.1.attrs) ∧ bulkT q.1 ≤ Rows.uptoBulk (D i) := by
      intro i hi
      obtain ⟨cs', h1, h2⟩ := hx i (by omega)
      rw [ce] at h1
      obtain ⟨_, hlen, hcell⟩ := World.cells?_some h1
      obtain ⟨xs, k, hk, hxy, _, hxl, hf⟩ := DataW.trod_struct Try.underlying30 h2
      have hxl4 : xs.length = 4 := hxl
      clear hxl
      obtain ⟨y0, y1, y2, y3, rfl⟩ := four hxl4
      obtain ⟨v0, v1, v2, v3, rfl⟩ := four hlen
      · skip
        have g0 := hf 0 _ rfl
        have g1 := hf 1 _ rfl
        have g2 := hf 2 _ rfl
        have g3 := hf 3 _ rfl
        simp [c3, c9, c41] at g0 g1 g2 g3
        obtain ⟨kd, e0, f0, _⟩ := DataW.trod_int Try.underlying3 g0
        obtain ⟨s1, e1, f1, _⟩ := DataW.trod_string Try.underlying9 g1
        obtain ⟨s3, e3, f3, _⟩ := DataW.trod_string Try.underlying9 g3
        obtain ⟨la, hla, hbl⟩ := attrs_down g2
        simp at e0 e1 e3
        subst e0 e1 e3 f0 f1 f3
        refine ⟨(⟨kd, s1.data.toList, la, s3.data.toList⟩, v2), ?_, hla, ?_⟩
        · intro r hr
          have hc := hcell r hr
          rw [add_add] at hc
          rw [hc]
          match r, hr with
          | 0, _ => rfl
          | 1, _ => simp [tokCells]
          | 2, _ => rfl
          | 3, _ => simp [tokCells]
        · simp only [Prod.mk.injEq] at hxy
          rw [hxy.1]
          simp [Rows.uptoBulk, Rows.uptoBulkAll, bulkT]
          omega
    haveI : Inhabited (Tok × Value) := ⟨(⟨0, [], [], []⟩, .nilIface)⟩
    obtain ⟨q, hq⟩ := choose_lt each
    refine ⟨((List.range len).map q).map (·.1), ⟨(List.range len).map q, rfl, ?_, ?_⟩, ?_⟩
    · have hol : ∀ l : List (Tok × Value), (outCells l).length = l.length * 4 := fun l => by
        induction l with
        | nil => rfl
        | cons p l ih =>
          have e : outCells (p :: l) = tokCells p ++ outCells l := by simp [outCells]
          rw [e, List.length_append, ih]
          simp [tokCells]
          omega
      rw [List.length_map, List.length_range]
      refine lies_of (by decide) hl hm (by rw [hol]; simp) fun j u hj => ?_
      have hj2 : j < len * 4 := by
        have := (List.getElem?_eq_some_iff.1 hj).1
        rw [hol] at this
        simpa using this
      have hi : j / 4 < ((List.range len).map q).length := by simp; omega
      have hi' : j / 4 < len := by omega
      have hel : ((List.range len).map q)[j / 4] = q (j / 4) := by simp
      have h8 := tok_at ((List.range len).map q) (j / 4) (j % 4) hi (by omega)
      rw [show j / 4 * 4 + j % 4 = j from by omega, hj, hel] at h8
      have h9 := (hq (j / 4) hi').1 (j % 4) (by omega)
      rw [show j / 4 * 4 + j % 4 = j from by omega] at h9
      rw [h9, ← h8]
    · intro p hp
      obtain ⟨i, hi, rfl⟩ := List.mem_map.1 hp
      exact (hq i (List.mem_range.1 hi)).2.1
    · simp only [Rows.uptoBulk]
      have hs : ∀ (r : List Nat), (∀ i ∈ r, i < len) → ((r.map q).map (fun p => bulkT p.1)).sum ≤ Rows.uptoBulkAll (r.map D) := fun r => by
        induction r with
        | nil => simp
        | cons i r ih =>
          intro hr
          have h1 := ih (fun k hk => hr k (by simp [hk]))
          have h2 := (hq i (hr i (by simp))).2.2
          simp only [List.map_cons, List.sum_cons, Rows.uptoBulkAll]
          omega
      have := hs (List.range len) (fun i hi => List.mem_range.1 hi)
      have e : bulkL (((List.range len).map q).map (·.1)) = (((List.range len).map q).map (fun p => bulkT p.1)).sum := by simp [bulkL, Function.comp_def]
      rw [e]
      omega
end
end Go.Proofs.Ytaeblkmkpfklkab

namespace Go.Proofs.Ytaeblkmkpfklkab
open Go.RowKit Go.Maps

theorem bulkP_len (l : List Pair) : l.length ≤ bulkP l ∧ ∀ p ∈ l, p.1.length ≤ bulkP l := by
  induction l with
  | nil => simp [bulkP]
  | cons a l ih =>
    simp only [bulkP, List.map_cons, List.sum_cons] at ih ⊢
    refine ⟨by simp; omega, fun p hp => ?_⟩
    rcases List.mem_cons.1 hp with rfl | hp
    · omega
    · have := ih.2 p hp; omega
theorem bulkL_mem {t : Tok} {l : List Tok} (h : t ∈ l) : bulkT t ≤ bulkL l := by
  induction l with
  | nil => simp at h
  | cons a l ih =>
    simp only [bulkL, List.map_cons, List.sum_cons] at ih ⊢
    rcases List.mem_cons.1 h with rfl | h
    · omega
    · have := ih h; omega
theorem bulkL_text (l : List Tok) : (l.flatMap Tok.text).length ≤ bulkL l := by
  induction l with
  | nil => simp
  | cons a l ih =>
    simp only [bulkL, List.map_cons, List.sum_cons, List.flatMap_cons, List.length_append, bulkT] at ih ⊢
    omega
theorem bulk_fits {l : List Tok} (h : bulkL l ≤ 1100000) : ∀ t ∈ l, FitsT t ∧ t.attrs.length ≤ 2000000 := by
  intro t ht
  have h1 := bulkL_mem ht
  have h2 := bulkP_len t.attrs
  unfold bulkT at h1
  refine ⟨⟨by unfold maxLen; omega, fun p hp => by have := h2.2 p hp; unfold maxLen; omega⟩, by omega⟩

/-- All text in a tree, gone or not. -/
theorem bytes_text : (ns : List Nd) → bytesNs ns = (textNs false ns).length
  | [] => by simp [textNs, bytesNs]
  | .mk n a t k :: r => by
    have h1 := bytes_text k
    have h2 := bytes_text r
    rw [textNs, bytesNs]
    simp [h1, h2, Nat.add_assoc]

set_option maxRecDepth 8000 in
set_option maxHeartbeats 4000000 in
theorem keeps_any (w : World) (v : Value) (ts : List Tok) (hv : Toks w v ts) (hb : bulkL ts ≤ 1100000) (hM : HasMax w) :
    Calls Try.prog 4 #[v] w fun e w' => e = .returned (.bool true) ∧ Keeps [] w w' := by
  have hfit := bulk_fits hb
  have htx := bulkL_text ts
  have hbd := hide (build_any w v ts hv (fun t ht => (hfit t ht).1) hM.pos (fun t ht => (hfit t ht).2) (by omega))
  obtain ⟨l, hlm, hvl, hva⟩ := id hv
  obtain ⟨o, c, rfl, h1, h2⟩ := hvl.form
  unfold maxLen at h2
  have HVL := hide hvl
  clear hvl hva hfit
  by_cases hc : chkL ts = 0
  · rw [hc, if_pos rfl] at hbd
    have hsaid := said_build ts (fun t ht => chkT_text t (chkL_each ts hc t ht))
    have HS := hide hsaid
    have HLM := hide hlm
    clear hsaid hc hlm
    go_enter Try.func4, Try.ntmps4
    go_wp2_with fail
    refine hbd.out.mono ?_
    rintro e w1 ⟨v1, rfl, hN1, hk1⟩
    obtain ⟨o1, c1, hv1⟩ := hN1.form
    subst hv1
    clear hbd
    go_wp2_with fail
    refine (treeBegun_any _ (hM.keeps hk1 List.not_mem_nil)).mono ?_
    rintro e w2 ⟨rfl, hk2⟩
    have htl : (ts.flatMap Tok.text).length ≤ 2000000 := by omega
    go_wp2_with fail
    go_loopw [5, 6] (fun sv i wr => ∃ (k : Nat) (D : List UInt8), k ≤ l.length ∧ i = .int .i64 k ∧ sv = .string ⟨D.toArray⟩ ∧ w2 = wr ∧ D.length ≤ 2000000 ∧ Hid (D ++ ((l.drop k).map (·.1)).flatMap Tok.text = ts.flatMap Tok.text)) (fun _ i _ => l.length - (intOf i).toNat)
    case atStart => exact ⟨0, [], Nat.zero_le _, rfl, rfl, rfl, by simp, by rw [Hid, ← HLM.out]; simp⟩
    case round =>
      obtain ⟨k, D, hk, rfl, rfl, rfl, hD, hH⟩ := hrel
      by_cases hlt : k < l.length
      · obtain ⟨g, x, hoo, hcl⟩ := (HVL.out.keeps (hk1.trans hk2)).addr (by omega)
        subst hoo
        obtain ⟨a0, a1, a2, a3⟩ := lies_tok hcl k hlt
        have hH1 := hH.out
        rw [List.drop_eq_getElem_cons hlt, List.map_cons, List.flatMap_cons] at hH1
        clear hcl hH
        generalize l[k] = p at *
        obtain ⟨⟨kd, nm, la, tx⟩, pv⟩ := p
        simp only at a0 a1 a2 a3 hH1
        have hln := congrArg List.length hH1
        simp only [List.length_append] at hln
        have z1 : ¬ 9223372036854775807 < D.length + tx.length := by omega
        have HH : Hid ((D ++ tx) ++ ((l.drop (k + 1)).map (·.1)).flatMap Tok.text = ts.flatMap Tok.text) := by rw [Hid, ← hH1]; simp
        have hD2 : (D ++ tx).length ≤ 2000000 := by simp; omega
        have e1 := str_append D tx
        clear hH1 hln a0 a1 a2
        go_wp2_with fail
        go_roundw
        case rel => exact ⟨k + 1, D ++ tx, by omega, by go_num, by first | rfl | simp [str_append], by first | rfl | trivial, hD2, HH⟩
        case measure => simp [intOf]; omega
      · have hDe : D = ts.flatMap Tok.text := by
          have := hH.out
          rw [List.drop_eq_nil_of_le (by omega)] at this
          simpa using this
        have hti := hide (textIn_all _ false w1 _ _ hN1 (by rw [bytes_text, HS.out]; omega) w2 hk2)
        rw [HS.out, ← hDe] at hti
        have p9 : ((⟨D.toArray⟩ : ByteArray).toList == (⟨D.toArray⟩ : ByteArray).toList) = true := by simp
        clear hDe hH
        go_wp2_with fail
        refine hti.out.mono ?_
        rintro e w3 ⟨rfl, n3, rfl⟩
        go_wp2_with fail
        go_ret
        exact ⟨rfl, (hk1.trans hk2).drewN _⟩
  · rw [if_neg hc] at hbd
    generalize chkL ts = E at *
    have hEb : (E != 0) = true := by simpa using hc
    clear hlm
    go_enter Try.func4, Try.ntmps4
    go_wp2_with fail
    refine hbd.out.mono ?_
    rintro e w1 ⟨v1, rfl, hN1, hk1⟩
    obtain ⟨o1, c1, hv1⟩ := hN1.form
    subst hv1
    clear hbd
    go_wp2_with fail
    refine (treeBegun_any _ (hM.keeps hk1 List.not_mem_nil)).mono ?_
    rintro e w2 ⟨rfl, hk2⟩
    go_wp2_with fail
    go_ret
    exact ⟨rfl, hk1.trans hk2⟩
end Go.Proofs.Ytaeblkmkpfklkab
