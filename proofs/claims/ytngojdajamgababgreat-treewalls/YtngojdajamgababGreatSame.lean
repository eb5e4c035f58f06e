/- Slices of attributes and tokens that are read: Lies; SameAttrs, SameTokens. -/
import Derived.Test.YtngojdajamgababGreatRead
import Derived.Laws.StructEq
namespace Go.Proofs.YtngojdajamgababGreat
open Go.RowKit Go.Maps

/-- n elements of z cells each lie where a slice says. -/
def Lies (w : World) (v : Value) (n z : Nat) (xs : List Value) : Prop :=
  xs.length = n * z ∧ ((v = .slice none 0 0 ∧ n = 0) ∨ (∃ g o c, v = .slice (some ⟨g, o, none⟩) n c ∧ n ≤ c ∧ c ≤ maxLen ∧ ∀ j u, xs[j]? = some u → w.cell? ⟨g, o + j, none⟩ = some u) ∨ (n = 0 ∧ ∃ a c, v = .slice a 0 c ∧ c ≤ maxLen))

theorem Lies.form {w : World} {v : Value} {n z : Nat} {xs : List Value} (h : Lies w v n z xs) : ∃ o c, v = .slice o n c ∧ n ≤ c ∧ c ≤ maxLen := by
  rcases h.2 with ⟨rfl, rfl⟩ | ⟨g, o, c, rfl, h1, h2, _⟩ | ⟨rfl, a, c, rfl, h1⟩
  · exact ⟨_, _, rfl, Nat.le_refl _, Nat.zero_le _⟩
  · exact ⟨_, _, rfl, h1, h2⟩
  · exact ⟨_, _, rfl, Nat.zero_le _, h1⟩

theorem Lies.addr {w : World} {a : Option Addr} {n m c z : Nat} {xs : List Value} (h : Lies w (.slice a m c) n z xs) (hn : 0 < n) : ∃ g o, a = some ⟨g, o, none⟩ ∧ ∀ j u, xs[j]? = some u → w.cell? ⟨g, o + j, none⟩ = some u := by
  rcases h.2 with ⟨_, h0⟩ | ⟨g, o, c', he, _, _, hc⟩ | ⟨h0, _⟩
  rotate_left 2
  · omega
  · omega
  · simp at he
    exact ⟨g, o, he.1, hc⟩

theorem Lies.of_row {w : World} {B : Nat} {e : TypeId} {z : Nat} {v : Value} {n : Nat} {xs : List Value} (h : w.ownsRow B e z v n xs) : Lies w v n z xs := by
  refine ⟨h.1, ?_⟩
  rcases h.2 with ⟨h1, h2⟩ | ⟨g, cap, cur, rfl, _, _, h3, h4, _⟩
  · exact .inl ⟨h1, h2⟩
  · refine .inr (.inl ⟨g, 0, cap, rfl, h3, h4, fun j u hj => ?_⟩)
    have := h.cells (g := g) rfl j u hj
    rw [add_zero] at this
    rw [Nat.zero_add]
    exact this

theorem cell_keeps {w w' : World} (hk : Keeps [] w w') {a : Addr} {u : Value} (h : w.cell? a = some u) : w'.cell? a = some u := by
  have hlt : a.block < w.heap.size := by
    rcases Nat.lt_or_ge a.block w.heap.size with h' | h'
    · exact h'
    · unfold World.cell? at h
      rw [Array.getElem?_eq_none h'] at h
      simp at h
  exact (World.cell?_of_block (hk.block _ hlt List.not_mem_nil)).trans h

theorem Lies.keeps {w w' : World} {v : Value} {n z : Nat} {xs : List Value} (h : Lies w v n z xs) (hk : Keeps [] w w') : Lies w' v n z xs := by
  refine ⟨h.1, ?_⟩
  rcases h.2 with ⟨h1, h2⟩ | ⟨g, o, c, rfl, h3, h4, h5⟩ | h6
  · exact .inl ⟨h1, h2⟩
  · exact .inr (.inl ⟨g, o, c, rfl, h3, h4, fun j u hj => cell_keeps hk (h5 j u hj)⟩)
  · exact .inr (.inr h6)

theorem pair_at0 (l : List Pair) (k : Nat) (hk : k < l.length) : (pairCells l)[k * 2]? = some (.string ⟨l[k].1.toArray⟩) := by
  induction l generalizing k with
  | nil => simp at hk
  | cons p l ih =>
    have e : pairCells (p :: l) = .string ⟨p.1.toArray⟩ :: .string ⟨p.2.toArray⟩ :: pairCells l := by simp [pairCells]
    rw [e]
    cases k with
    | zero => simp
    | succ k => rw [show (k + 1) * 2 = k * 2 + 1 + 1 from by omega]; simpa using ih k (by simpa using hk)
theorem pair_at1 (l : List Pair) (k : Nat) (hk : k < l.length) : (pairCells l)[k * 2 + 1]? = some (.string ⟨l[k].2.toArray⟩) := by
  induction l generalizing k with
  | nil => simp at hk
  | cons p l ih =>
    have e : pairCells (p :: l) = .string ⟨p.1.toArray⟩ :: .string ⟨p.2.toArray⟩ :: pairCells l := by simp [pairCells]
    rw [e]
    cases k with
    | zero => simp
    | succ k => rw [show (k + 1) * 2 + 1 = (k * 2 + 1) + 1 + 1 from by omega]; simpa using ih k (by simpa using hk)

theorem strEq (x y : List UInt8) : ((⟨x.toArray⟩ : ByteArray).toList == (⟨y.toArray⟩ : ByteArray).toList) = decide (x = y) := by
  rw [ByteArray.toList_eq, ByteArray.toList_eq, Bool.eq_iff_iff]
  simp
theorem strNe (x y : List UInt8) : ((⟨x.toArray⟩ : ByteArray).toList != (⟨y.toArray⟩ : ByteArray).toList) = decide (x ≠ y) := by
  unfold bne
  rw [strEq]
  simp

theorem eqAttr (x y : Pair) (w : World) : (binOp .neq 83 (.agg #[.string ⟨x.1.toArray⟩, .string ⟨x.2.toArray⟩]) (.agg #[.string ⟨y.1.toArray⟩, .string ⟨y.2.toArray⟩])).run Tryz.prog w = .ok (.bool (decide (x ≠ y))) w := by
  have u9 := Tryz.underlying9
  have hS : Tryz.prog.underlying 83 = some (.struct (Tryz.prog.fieldsOf 83)) := by kernel_rfl
  have hp : Tryz.prog.stoodInHeld 83 = false := by kernel_rfl
  have e : decide (x ≠ y) = !(decide (x.1 = y.1) && decide (x.2 = y.2)) := by
    obtain ⟨x1, x2⟩ := x
    obtain ⟨y1, y2⟩ := y
    by_cases h1 : x1 = y1 <;> by_cases h2 : x2 = y2 <;> simp [h1, h2]
  rw [e, run_neq_struct, show (10000 : Nat) = 9999 + 1 from rfl, run_equalIn_agg w 9999 83 _ _ hS hp]
  simp only [Program.fieldsOf, Tryz.underlying83]
  go_simp
  by_cases h1 : x.1 = y.1 <;> by_cases h2 : x.2 = y.2 <;> simp [h1, h2]

theorem eq_upto {α : Type} {a b : List α} (hlen : a.length = b.length) (h : ∀ j (h1 : j < a.length) (h2 : j < b.length), a[j] = b[j]) : a = b := List.ext_getElem hlen h

set_option maxHeartbeats 2000000 in
theorem sameAttrs_any (w : World) (va vb : Value) (la lb : List Pair) (ha : Lies w va la.length 2 (pairCells la)) (hb : Lies w vb lb.length 2 (pairCells lb)) :
    Calls Tryz.prog 39 #[va, vb] w fun e w' => e = .returned (.bool (decide (la = lb))) ∧ ∃ n, w' = w.drewN n := by
  obtain ⟨oa, ca, rfl, ha1, ha2⟩ := ha.form
  obtain ⟨ob, cb, rfl, hb1, hb2⟩ := hb.form
  unfold maxLen at ha2 hb2
  by_cases hlen : la.length = lb.length
  · obtain ⟨R, hR⟩ : ∃ R, decide (la = lb) = R := ⟨_, rfl⟩
    rw [hR]
    have HR := hide hR
    clear hR
    have HL := hide hlen
    have hn : (((la.length : Int) != (lb.length : Int))) = false := by simp; omega
    clear hlen
    go_enter Tryz.func39, Tryz.ntmps39
    go_wp2_with fail
    go_loopw [5] (fun i wr => ∃ k m : Nat, k ≤ la.length ∧ i = .int .i64 k ∧ wr = w.drewN m ∧ Hid (∀ j (h1 : j < la.length) (h2 : j < lb.length), j < k → la[j] = lb[j])) (fun i _ => la.length - (intOf i).toNat)
    case atStart => exact ⟨0, 0, Nat.zero_le _, rfl, rfl, fun j _ _ h => absurd h (Nat.not_lt_zero _)⟩
    case round =>
      obtain ⟨k, m, hk, rfl, rfl, hH⟩ := hrel
      by_cases hlt : k < la.length
      · obtain ⟨ga, xa, rfl, hca⟩ := ha.addr (by omega)
        obtain ⟨gb, xb, rfl, hcb⟩ := hb.addr (by rw [← HL.out]; omega)
        have a0 := hca _ _ (pair_at0 la k hlt)
        have a1 := hca _ _ (pair_at1 la k hlt)
        rw [← Nat.add_assoc] at a1
        have hltb : k < lb.length := by rw [← HL.out]; exact hlt
        have b0 := hcb _ _ (pair_at0 lb k hltb)
        have b1 := hcb _ _ (pair_at1 lb k hltb)
        rw [← Nat.add_assoc] at b1
        clear hca hcb
        have hgd : Tryz.prog.eqGuardType Tryz.prog.depth 83 = false := by kernel_rfl
        have heq := fun w => eqAttr la[k] lb[k] w
        by_cases hkk : la[k] = lb[k]
        · have hdd : decide (la[k] ≠ lb[k]) = false := by simpa using hkk
          rw [hdd] at heq
          have HKK := hide hkk
          clear hdd hkk
          go_wp2_with fail
          go_quiet (fail)
          go_wp2_with fail
          go_roundw
          case rel => exact ⟨k + 1, _, by omega, by go_num, rfl, fun j h1 h2 hj => by
            rcases Nat.lt_succ_iff_lt_or_eq.1 hj with hj | rfl
            · exact hH.out j h1 h2 hj
            · exact HKK.out⟩
          case measure => simp [intOf]; omega
        · have hdd : decide (la[k] ≠ lb[k]) = true := by simpa using hkk
          rw [hdd] at heq
          have hRf : R = false := by
            rw [← HR.out]
            have : la ≠ lb := fun e => hkk (by subst e; rfl)
            simpa using this
          subst hRf
          clear hdd hkk
          go_wp2_with fail
          go_quiet (fail)
          go_wp2_with fail
          go_ret
          exact ⟨rfl, m + nq, by simp⟩
      · have hRt : R = true := by
          rw [← HR.out]
          have : la = lb := eq_upto HL.out fun j h1 h2 => hH.out j h1 h2 (by omega)
          simpa using this
        subst hRt
        go_wp2_with fail
        go_ret
        exact ⟨rfl, _, rfl⟩
  · have hn : (((la.length : Int) != (lb.length : Int))) = true := by simp; omega
    have hf : decide (la = lb) = false := by
      have : la ≠ lb := fun e => hlen (by rw [e])
      simpa using this
    rw [hf]
    clear hf
    go_enter Tryz.func39, Tryz.ntmps39
    go_wp2_with fail
    go_ret
    exact ⟨rfl, 0, rfl⟩

/-- A slice of tokens that is read. -/
def Toks (w : World) (v : Value) (ts : List Tok) : Prop := ∃ l : List (Tok × Value), l.map (·.1) = ts ∧ Lies w v l.length 4 (outCells l) ∧ ∀ p ∈ l, Lies w p.2 p.1.attrs.length 2 (pairCells p.1.attrs)

theorem IsToks.toks {w : World} {B : Nat} {v : Value} {ts : List Tok} (h : IsToks w B v ts) : Toks w v ts := by
  obtain ⟨l, h1, h2, h3⟩ := h
  exact ⟨l, h1, Lies.of_row h2, fun p hp => Lies.of_row (h3 p hp)⟩
theorem Toks.keeps {w w' : World} {v : Value} {ts : List Tok} (h : Toks w v ts) (hk : Keeps [] w w') : Toks w' v ts := by
  obtain ⟨l, h1, h2, h3⟩ := h
  exact ⟨l, h1, h2.keeps hk, fun p hp => (h3 p hp).keeps hk⟩

theorem tok_at (l : List (Tok × Value)) (k j : Nat) (hk : k < l.length) (hj : j < 4) : (outCells l)[k * 4 + j]? = (tokCells l[k])[j]? := by
  induction l generalizing k with
  | nil => simp at hk
  | cons p l ih =>
    have e : outCells (p :: l) = tokCells p ++ outCells l := by simp [outCells]
    have h4 : (tokCells p).length = 4 := rfl
    rw [e]
    cases k with
    | zero => rw [Nat.zero_mul, Nat.zero_add, List.getElem?_append_left (by omega)]; rfl
    | succ k =>
      rw [List.getElem?_append_right (by omega), h4, show (k + 1) * 4 + j - 4 = k * 4 + j from by omega]
      exact ih k (by simpa using hk)

theorem lies_tok {w : World} {g o : Nat} {l : List (Tok × Value)} (h : ∀ j u, (outCells l)[j]? = some u → w.cell? ⟨g, o + j, none⟩ = some u) (k : Nat) (hk : k < l.length) :
    w.cell? ⟨g, o + k * 4, none⟩ = some (.int .i64 l[k].1.kind) ∧ w.cell? ⟨g, o + k * 4 + 1, none⟩ = some (.string ⟨l[k].1.name.toArray⟩) ∧ w.cell? ⟨g, o + k * 4 + 2, none⟩ = some l[k].2 ∧ w.cell? ⟨g, o + k * 4 + 3, none⟩ = some (.string ⟨l[k].1.text.toArray⟩) := by
  have e : ∀ j, j < 4 → o + k * 4 + j = o + (k * 4 + j) := fun j _ => by omega
  refine ⟨?_, ?_, ?_, ?_⟩
  · exact h (k * 4) _ ((tok_at l k 0 hk (by omega)).trans rfl)
  · rw [e 1 (by omega)]; exact h _ _ ((tok_at l k 1 hk (by omega)).trans rfl)
  · rw [e 2 (by omega)]; exact h _ _ ((tok_at l k 2 hk (by omega)).trans rfl)
  · rw [e 3 (by omega)]; exact h _ _ ((tok_at l k 3 hk (by omega)).trans rfl)

end Go.Proofs.YtngojdajamgababGreat
