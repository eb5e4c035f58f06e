/- endText and put. put, openTag, closeTag. openTag, closeTag. piece: a tag, a comment, or text. piece, whatever stands there; how far it goes. Try, for a method's value. Read. Slices of attributes and tokens that are read: Lies; SameAttrs, SameTokens. Names of elements that close others; innermost, closedBy. isName, however long a text is. nodes.CheckAttrs of the names of a token. checkToken, Check. Check. -/
import Derived.Test.YtlcljanibjdejaaGreatXb02
import Derived.Maps.AppendAt
import Derived.Laws.StructEq
namespace Go.Proofs.YtlcljanibjdejaaGreat
open Go.RowKit Go.Maps
/-- A text token. -/
def textTok (t : List UInt8) : Tok := ⟨1, [], [], t⟩
/-- What may be touched when tokens are put. -/
def touch (r : Nat) (rawv outv : Value) : List Nat := r :: (rawv.ownBlock.toList ++ outv.ownBlock.toList)
theorem lit_cells (w : World) (cs : Array Value) (t : TypeId) (j : Nat) (u : Value) (h : cs.toList[j]? = some u) : (w.alloc (.cells cs t)).cell? ((⟨w.heap.size, 0, none⟩ : Addr).add j) = some u := by
  rw [add_zero]
  have hh := heap_alloc_new w (.cells cs t)
  have h' : cs[j]? = some u := by simpa using h
  simp only [World.cell?]
  rw [hh]
  exact h'
theorem IsReader.blk {w : World} {r b : Nat} {rawv outv : Value} (h : IsReader w r b rawv outv) : w.heap[r]? = some (.cells #[.pointer (some ⟨b, 0, none⟩), rawv, outv] 109 (0, 0)) := h
theorem row_form {w : World} {B : Nat} {e : TypeId} {z : Nat} {v : Value} {n : Nat} {xs : List Value} (h : w.ownsRow B e z v n xs) : ∃ o c, v = .slice o n c := by
  rcases h.2 with ⟨rfl, h0⟩ | ⟨g, cap, cur, rfl, _⟩
  · exact ⟨none, 0, by rw [h0]⟩
  · exact ⟨_, _, rfl⟩
/-- An append of a slice's cells onto a row that the call owns; where the row lies then. -/
theorem step_own_at {P : Program} {ops : Array Oper} {o : Oper} {a : Act} {w : World} {K : Act → World → Prop} {Q : Exit → Act → World → Prop} {E : Prop} (hg : o.guard = none) (s x : Operand) (t : TypeId)
    (ho : o.op = .call { callee := .builtin .append, args := #[s, x], argTypes := #[t, t] })
    (base : Nat) (e : TypeId) (i : TypeInfo) (z : Value) (size bytes : Nat) (ht : P.underlying t = some (.slice e)) (hi : P.info? e = some i) (hz : i.zero = some z)
    (hsize : i.size = size) (hby : i.bytes = bytes) (hzs : z.cells.size = size) (hsz : 0 < size)
    (v : Value) (n : Nat) (xs : List Value) (hs : a.eval s = v) (hown : w.ownsRow base e size v n xs)
    (ad : Addr) (m c : Nat) (news : List Value) (hx : a.eval x = .slice (some ad) m c) (hl : news.length = m * size) (hnews : ∀ j u, news[j]? = some u → w.cell? (ad.add j) = some u) (h1 : ∀ u ∈ news, u.oneCell' = true)
    (h63 : n + m ≤ maxLen) (hbytes : (n + m) * bytes ≤ 140737488355328) (hbase : base ≤ w.heap.size)
    (h : ∀ v' w', w'.ownsRow base e size v' (n + m) (xs ++ news) → w.grownBy w' v.ownBlock → (v'.ownBlock = v.ownBlock ∨ v'.ownBlock = some w.heap.size) → K (a.put o.dst v') w') :
    if Region.wanted o (yielded ops a.tmps) = true then Oper.wp P o a w K Q else E := by
  refine step_is hg ?_
  obtain ⟨v', w', hr, h2, h3, _, h5⟩ := run_append_own_at (P := P) w base t o.type e i z size bytes ht hi hz hsize hby hzs hsz v n xs hown ad m c news hl hnews h1 h63 hbytes hbase
  unfold Oper.wp execOp
  simp only [ho, resolve, invoke, builtin, Sem.run_bind, Sem.run_pure, Result.andThen_ok, List.map_toArray, List.map_cons, List.map_nil, hs, hx, hr]
  exact h v' w' h2 h3 h5
/-- What is touched anew is what was touched, or is new. -/
def Within (w : World) (S T : List Nat) : Prop := ∀ i, i ∈ S → i < w.heap.size → i ∈ T
theorem Within.refl (w : World) (S : List Nat) : Within w S S := fun _ h _ => h
theorem row_zero {w : World} {B : Nat} {e : TypeId} {z g cap n : Nat} {xs : List Value} (h : w.ownsRow B e z (.slice (some ⟨g, 0, none⟩) n cap) n xs) : w.ownsRow B e z (.slice (some ⟨g, 0, none⟩) 0 cap) 0 [] := by
  rcases h.2 with ⟨h1, _⟩ | ⟨g', cap', cur, he, h2, h3, h4, h5, h6, h7⟩
  · simp at h1
  · simp at he
    obtain ⟨rfl, rfl⟩ := he
    exact ⟨by simp, .inr ⟨g, cap, cur, rfl, h2, h3, Nat.zero_le _, h5, h6, by simp⟩⟩
end Go.Proofs.YtlcljanibjdejaaGreat
namespace Go.Proofs.YtlcljanibjdejaaGreat
open Go.RowKit Go.Maps
/-- Four cells of a token lie in a block. -/
def IsTok (w : World) (g : Nat) (p : Tok × Value) : Prop := w.heap[g]? = some (.cells #[.int .i64 p.1.kind, .string ⟨p.1.name.toArray⟩, p.2, .string ⟨p.1.text.toArray⟩] 117 (0, 0))
theorem IsTok.cell (j : Nat) {w : World} {g : Nat} {p : Tok × Value} (h : IsTok w g p) : w.cell? ⟨g, j, none⟩ = (#[.int .i64 p.1.kind, .string ⟨p.1.name.toArray⟩, p.2, .string ⟨p.1.text.toArray⟩] : Array Value)[j]? := by
  unfold World.cell?
  simp only
  rw [show w.heap[g]? = _ from h]
  simp
theorem IsTok.lt {w : World} {g : Nat} {p : Tok × Value} (h : IsTok w g p) : g < w.heap.size := lt_of_block h
theorem IsTok.keeps {S : List Nat} {w w' : World} {g : Nat} {p : Tok × Value} (h : IsTok w g p) (hk : Keeps S w w') (hg : g ∉ S) : IsTok w' g p := by
  rw [IsTok, hk.block g h.lt hg]; exact h
theorem HasAttrs.touch {w w' : World} {B r b : Nat} {rawv outv : Value} {raw : List UInt8} {l : List (Tok × Value)} (h : Rd w B r b rawv outv raw l) {p : Tok × Value} (hp : HasAttrs w B p) (hk : Keeps (touch r rawv outv) w w') : HasAttrs w' B p := by
  refine hk.owns hp (fun g hg hm => ?_)
  simp [Go.Proofs.YtlcljanibjdejaaGreat.touch] at hm
  rcases hm with rfl | hm | hm
  · exact block_ne hp h.reader.blk (by decide) hg
  · exact rows_apart hp h.raw (by decide) hg hm
  · exact rows_apart hp h.out (by decide) hg hm
theorem HasAttrs.form {w : World} {B : Nat} {p : Tok × Value} (hp : HasAttrs w B p) : ∃ o n c, p.2 = .slice o n c := by
  obtain ⟨o, c, h⟩ := row_form hp
  exact ⟨o, _, c, h⟩
end Go.Proofs.YtlcljanibjdejaaGreat
namespace Go.Proofs.YtlcljanibjdejaaGreat
open Go.RowKit Go.Maps
/-- The text that isn't taken yet, as a token. -/
def endT (raw : List UInt8) : List Tok := if raw = [] then [] else [textTok (takeL raw).1]
end Go.Proofs.YtlcljanibjdejaaGreat
namespace Go.Proofs.YtlcljanibjdejaaGreat
open Go.RowKit Go.Maps
/-- What a piece answers. -/
def PieceDone (B r b : Nat) (rawv outv : Value) (raw : List UInt8) (l : List (Tok × Value)) (s : ByteArray) (w : World) (P : Option (Nat × List UInt8 × List Tok)) (e : Ending) (w' : World) : Prop :=
  ((∃ k' raw' rawv' outv' l', P = some (k', raw', l'.map (·.1)) ∧ e = .returned (.tuple #[]) ∧ Rd w' B r b rawv' outv' raw' l' ∧ IsText w' b s k') ∨
   (P = none ∧ e = .panicked gave ∧ Rd w' B r b rawv outv raw l ∧ ∃ j, IsText w' b s j)) ∧ Keeps (b :: touch r rawv outv) w w'
theorem PieceDone.nil {B r b : Nat} {rawv outv : Value} {raw : List UInt8} {l : List (Tok × Value)} {s : ByteArray} {w0 w : World} {P : Option (Nat × List UInt8 × List Tok)} {e : Ending} {w' : World} (h : PieceDone B r b rawv outv raw l s w P e w') (hk : Keeps [] w0 w) : PieceDone B r b rawv outv raw l s w0 P e w' :=
  ⟨h.1, (hk.to (by simp)).trans h.2⟩
end Go.Proofs.YtlcljanibjdejaaGreat
namespace Go.Proofs.YtlcljanibjdejaaGreat
open Go.RowKit Go.Maps
theorem index_len : ∀ (l p : List UInt8), 0 ≤ Lib.index l p → Lib.index l p + p.length ≤ l.length
  | [], p => by
    unfold Lib.index
    split
    · rename_i h; simp_all
    · simp
  | c :: l, p => by
    have ih := index_len l p
    unfold Lib.index
    split
    · rename_i h
      have h' : p <+: c :: l := by simpa using h
      have := h'.length_le
      simp at this ⊢; omega
    · split
      · simp
      · rename_i h2
        intro h
        have h3 : Lib.index l p ≠ -1 := by simpa using h2
        simp only [List.length_cons]
        have := ih (by omega)
        omega
theorem endOf_len {p l : List UInt8} {m : Nat} (h : endOf p l = some m) : p.length ≤ m ∧ m ≤ l.length := by
  unfold endOf at h
  split at h
  · simp at h
  · simp only [Option.some.injEq] at h
    have := index_len l p (by omega)
    omega
theorem endT_len (raw : List UInt8) : (endT raw).length ≤ 1 := by unfold endT; split <;> simp
end Go.Proofs.YtlcljanibjdejaaGreat
namespace Go.Proofs.YtlcljanibjdejaaGreat
open Go.RowKit Go.Maps
/-- A slice of tokens. -/
def IsToks (w : World) (B : Nat) (v : Value) (ts : List Tok) : Prop := ∃ l : List (Tok × Value), l.map (·.1) = ts ∧ w.ownsRow B 117 4 v l.length (outCells l) ∧ ∀ p ∈ l, HasAttrs w B p
theorem IsToks.keeps {w w' : World} {B : Nat} {v : Value} {ts : List Tok} (h : IsToks w B v ts) (hk : Keeps [] w w') : IsToks w' B v ts := by
  obtain ⟨l, h1, h2, h3⟩ := h
  exact ⟨l, h1, hk.owns h2 (fun _ _ => List.not_mem_nil), fun p hp => hk.owns (h3 p hp) (fun _ _ => List.not_mem_nil)⟩
end Go.Proofs.YtlcljanibjdejaaGreat
namespace Go.Proofs.YtlcljanibjdejaaGreat
open Go.RowKit Go.Maps
/-- n elements of z cells each lie where a slice says. -/
def Lies (w : World) (v : Value) (n z : Nat) (xs : List Value) : Prop :=
  xs.length = n * z ∧ ((v = .slice none 0 0 ∧ n = 0) ∨ (∃ g o c, v = .slice (some ⟨g, o, none⟩) n c ∧ n ≤ c ∧ c ≤ maxLen ∧ ∀ j u, xs[j]? = some u → w.cell? ⟨g, o + j, none⟩ = some u) ∨ (n = 0 ∧ ∃ a c, v = .slice a 0 c ∧ c ≤ maxLen))
theorem Lies.form {w : World} {v : Value} {n z : Nat} {xs : List Value} (h : Lies w v n z xs) : ∃ o c, v = .slice o n c ∧ n ≤ c ∧ c ≤ maxLen := by
  rcases h.2 with ⟨rfl, rfl⟩ | ⟨g, o, c, rfl, h1, h2, _⟩ | ⟨rfl, a, c, rfl, h1⟩
  · exact ⟨_, _, rfl, Nat.le_refl _, Nat.zero_le _⟩
  · exact ⟨_, _, rfl, h1, h2⟩
  · exact ⟨_, _, rfl, Nat.zero_le _, h1⟩
theorem Lies.addr {w : World} {a : Option Addr} {n m c z : Nat} {xs : List Value} (h : Lies w (.slice a m c) n z xs) (hn : 0 < n) : ∃ g o, a = some ⟨g, o, none⟩ ∧ ∀ j u, xs[j]? = some u → w.cell? ⟨g, o + j, none⟩ = some u := by
  rcases h.2 with ⟨_, h0⟩ | ⟨g, o, c', he, _, _, hc⟩ | ⟨h0, _⟩
  rotate_left 2
  · omega
  · omega
  · simp at he
    exact ⟨g, o, he.1, hc⟩
theorem Lies.of_row {w : World} {B : Nat} {e : TypeId} {z : Nat} {v : Value} {n : Nat} {xs : List Value} (h : w.ownsRow B e z v n xs) : Lies w v n z xs := by
  refine ⟨h.1, ?_⟩
  rcases h.2 with ⟨h1, h2⟩ | ⟨g, cap, cur, rfl, _, _, h3, h4, _⟩
  · exact .inl ⟨h1, h2⟩
  · refine .inr (.inl ⟨g, 0, cap, rfl, h3, h4, fun j u hj => ?_⟩)
    have := h.cells (g := g) rfl j u hj
    rw [add_zero] at this
    rw [Nat.zero_add]
    exact this
theorem cell_keeps {w w' : World} (hk : Keeps [] w w') {a : Addr} {u : Value} (h : w.cell? a = some u) : w'.cell? a = some u := by
  have hlt : a.block < w.heap.size := by
    rcases Nat.lt_or_ge a.block w.heap.size with h' | h'
    · exact h'
    · unfold World.cell? at h
      rw [Array.getElem?_eq_none h'] at h
      simp at h
  exact (World.cell?_of_block (hk.block _ hlt List.not_mem_nil)).trans h
theorem Lies.keeps {w w' : World} {v : Value} {n z : Nat} {xs : List Value} (h : Lies w v n z xs) (hk : Keeps [] w w') : Lies w' v n z xs := by
  refine ⟨h.1, ?_⟩
  rcases h.2 with ⟨h1, h2⟩ | ⟨g, o, c, rfl, h3, h4, h5⟩ | h6
  · exact .inl ⟨h1, h2⟩
  · exact .inr (.inl ⟨g, o, c, rfl, h3, h4, fun j u hj => cell_keeps hk (h5 j u hj)⟩)
  · exact .inr (.inr h6)
theorem pair_at0 (l : List Pair) (k : Nat) (hk : k < l.length) : (pairCells l)[k * 2]? = some (.string ⟨l[k].1.toArray⟩) := by
  induction l generalizing k with
  | nil => simp at hk
  | cons p l ih =>
    have e : pairCells (p :: l) = .string ⟨p.1.toArray⟩ :: .string ⟨p.2.toArray⟩ :: pairCells l := by simp [pairCells]
    rw [e]
    cases k with
    | zero => simp
    | succ k => rw [show (k + 1) * 2 = k * 2 + 1 + 1 from by omega]; simpa using ih k (by simpa using hk)
theorem pair_at1 (l : List Pair) (k : Nat) (hk : k < l.length) : (pairCells l)[k * 2 + 1]? = some (.string ⟨l[k].2.toArray⟩) := by
  induction l generalizing k with
  | nil => simp at hk
  | cons p l ih =>
    have e : pairCells (p :: l) = .string ⟨p.1.toArray⟩ :: .string ⟨p.2.toArray⟩ :: pairCells l := by simp [pairCells]
    rw [e]
    cases k with
    | zero => simp
    | succ k => rw [show (k + 1) * 2 + 1 = (k * 2 + 1) + 1 + 1 from by omega]; simpa using ih k (by simpa using hk)
theorem strEq (x y : List UInt8) : ((⟨x.toArray⟩ : ByteArray).toList == (⟨y.toArray⟩ : ByteArray).toList) = decide (x = y) := by
  rw [ByteArray.toList_eq, ByteArray.toList_eq, Bool.eq_iff_iff]
  simp
theorem eqAttr (x y : Pair) (w : World) : (binOp .neq 52 (.agg #[.string ⟨x.1.toArray⟩, .string ⟨x.2.toArray⟩]) (.agg #[.string ⟨y.1.toArray⟩, .string ⟨y.2.toArray⟩])).run Tryz.prog w = .ok (.bool (decide (x ≠ y))) w := by
  have u9 := Tryz.underlying9
  have hS : Tryz.prog.underlying 52 = some (.struct (Tryz.prog.fieldsOf 52)) := by kernel_rfl
  have hp : Tryz.prog.stoodInHeld 52 = false := by kernel_rfl
  have e : decide (x ≠ y) = !(decide (x.1 = y.1) && decide (x.2 = y.2)) := by
    obtain ⟨x1, x2⟩ := x
    obtain ⟨y1, y2⟩ := y
    by_cases h1 : x1 = y1 <;> by_cases h2 : x2 = y2 <;> simp [h1, h2]
  rw [e, run_neq_struct, show (10000 : Nat) = 9999 + 1 from rfl, run_equalIn_agg w 9999 52 _ _ hS hp]
  simp only [Program.fieldsOf, Tryz.underlying52]
  go_simp
  by_cases h1 : x.1 = y.1 <;> by_cases h2 : x.2 = y.2 <;> simp [h1, h2]
theorem eq_upto {α : Type} {a b : List α} (hlen : a.length = b.length) (h : ∀ j (h1 : j < a.length) (h2 : j < b.length), a[j] = b[j]) : a = b := List.ext_getElem hlen h
set_option maxHeartbeats 2000000 in
theorem sameAttrs_any (w : World) (va vb : Value) (la lb : List Pair) (ha : Lies w va la.length 2 (pairCells la)) (hb : Lies w vb lb.length 2 (pairCells lb)) :
    Calls Tryz.prog 92 #[va, vb] w fun e w' => e = .returned (.bool (decide (la = lb))) ∧ ∃ n, w' = w.drewN n := by
  obtain ⟨oa, ca, rfl, ha1, ha2⟩ := ha.form
  obtain ⟨ob, cb, rfl, hb1, hb2⟩ := hb.form
  unfold maxLen at ha2 hb2
  by_cases hlen : la.length = lb.length
  · obtain ⟨R, hR⟩ : ∃ R, decide (la = lb) = R := ⟨_, rfl⟩
    rw [hR]
    have HR := hide hR
    clear hR
    have HL := hide hlen
    have hn : (((la.length : Int) != (lb.length : Int))) = false := by simp; omega
    clear hlen
    go_enter Tryz.func92, Tryz.ntmps92
    go_wp2_with fail
    go_loopw [5] (fun i wr => ∃ k m : Nat, k ≤ la.length ∧ i = .int .i64 k ∧ wr = w.drewN m ∧ Hid (∀ j (h1 : j < la.length) (h2 : j < lb.length), j < k → la[j] = lb[j])) (fun i _ => la.length - (intOf i).toNat)
    case atStart => exact ⟨0, 0, Nat.zero_le _, rfl, rfl, fun j _ _ h => absurd h (Nat.not_lt_zero _)⟩
    case round =>
      obtain ⟨k, m, hk, rfl, rfl, hH⟩ := hrel
      by_cases hlt : k < la.length
      · obtain ⟨ga, xa, rfl, hca⟩ := ha.addr (by omega)
        obtain ⟨gb, xb, rfl, hcb⟩ := hb.addr (by rw [← HL.out]; omega)
        have a0 := hca _ _ (pair_at0 la k hlt)
        have a1 := hca _ _ (pair_at1 la k hlt)
        rw [← Nat.add_assoc] at a1
        have hltb : k < lb.length := by rw [← HL.out]; exact hlt
        have b0 := hcb _ _ (pair_at0 lb k hltb)
        have b1 := hcb _ _ (pair_at1 lb k hltb)
        rw [← Nat.add_assoc] at b1
        clear hca hcb
        have hgd : Tryz.prog.eqGuardType Tryz.prog.depth 52 = false := by kernel_rfl
        have heq := fun w => eqAttr la[k] lb[k] w
        by_cases hkk : la[k] = lb[k]
        · have hdd : decide (la[k] ≠ lb[k]) = false := by simpa using hkk
          rw [hdd] at heq
          have HKK := hide hkk
          clear hdd hkk
          go_wp2_with fail
          go_quiet (fail)
          go_wp2_with fail
          go_roundw
          case rel => exact ⟨k + 1, _, by omega, by go_num, rfl, fun j h1 h2 hj => by
            rcases Nat.lt_succ_iff_lt_or_eq.1 hj with hj | rfl
            · exact hH.out j h1 h2 hj
            · exact HKK.out⟩
          case measure => simp [intOf]; omega
        · have hdd : decide (la[k] ≠ lb[k]) = true := by simpa using hkk
          rw [hdd] at heq
          have hRf : R = false := by
            rw [← HR.out]
            have : la ≠ lb := fun e => hkk (by subst e; rfl)
            simpa using this
          subst hRf
          clear hdd hkk
          go_wp2_with fail
          go_quiet (fail)
          go_wp2_with fail
          go_ret
          exact ⟨rfl, m + nq, by simp⟩
      · have hRt : R = true := by
          rw [← HR.out]
          have : la = lb := eq_upto HL.out fun j h1 h2 => hH.out j h1 h2 (by omega)
          simpa using this
        subst hRt
        go_wp2_with fail
        go_ret
        exact ⟨rfl, _, rfl⟩
  · have hn : (((la.length : Int) != (lb.length : Int))) = true := by simp; omega
    have hf : decide (la = lb) = false := by
      have : la ≠ lb := fun e => hlen (by rw [e])
      simpa using this
    rw [hf]
    clear hf
    go_enter Tryz.func92, Tryz.ntmps92
    go_wp2_with fail
    go_ret
    exact ⟨rfl, 0, rfl⟩
/-- A slice of tokens that is read. -/
def Toks (w : World) (v : Value) (ts : List Tok) : Prop := ∃ l : List (Tok × Value), l.map (·.1) = ts ∧ Lies w v l.length 4 (outCells l) ∧ ∀ p ∈ l, Lies w p.2 p.1.attrs.length 2 (pairCells p.1.attrs)
theorem Toks.keeps {w w' : World} {v : Value} {ts : List Tok} (h : Toks w v ts) (hk : Keeps [] w w') : Toks w' v ts := by
  obtain ⟨l, h1, h2, h3⟩ := h
  exact ⟨l, h1, h2.keeps hk, fun p hp => (h3 p hp).keeps hk⟩
theorem tok_at (l : List (Tok × Value)) (k j : Nat) (hk : k < l.length) (hj : j < 4) : (outCells l)[k * 4 + j]? = (tokCells l[k])[j]? := by
  induction l generalizing k with
  | nil => simp at hk
  | cons p l ih =>
    have e : outCells (p :: l) = tokCells p ++ outCells l := by simp [outCells]
    have h4 : (tokCells p).length = 4 := rfl
    rw [e]
    cases k with
    | zero => rw [Nat.zero_mul, Nat.zero_add, List.getElem?_append_left (by omega)]; rfl
    | succ k =>
      rw [List.getElem?_append_right (by omega), h4, show (k + 1) * 4 + j - 4 = k * 4 + j from by omega]
      exact ih k (by simpa using hk)
theorem lies_tok {w : World} {g o : Nat} {l : List (Tok × Value)} (h : ∀ j u, (outCells l)[j]? = some u → w.cell? ⟨g, o + j, none⟩ = some u) (k : Nat) (hk : k < l.length) :
    w.cell? ⟨g, o + k * 4, none⟩ = some (.int .i64 l[k].1.kind) ∧ w.cell? ⟨g, o + k * 4 + 1, none⟩ = some (.string ⟨l[k].1.name.toArray⟩) ∧ w.cell? ⟨g, o + k * 4 + 2, none⟩ = some l[k].2 ∧ w.cell? ⟨g, o + k * 4 + 3, none⟩ = some (.string ⟨l[k].1.text.toArray⟩) := by
  have e : ∀ j, j < 4 → o + k * 4 + j = o + (k * 4 + j) := fun j _ => by omega
  refine ⟨?_, ?_, ?_, ?_⟩
  · exact h (k * 4) _ ((tok_at l k 0 hk (by omega)).trans rfl)
  · rw [e 1 (by omega)]; exact h _ _ ((tok_at l k 1 hk (by omega)).trans rfl)
  · rw [e 2 (by omega)]; exact h _ _ ((tok_at l k 2 hk (by omega)).trans rfl)
  · rw [e 3 (by omega)]; exact h _ _ ((tok_at l k 3 hk (by omega)).trans rfl)
end Go.Proofs.YtlcljanibjdejaaGreat
namespace Go.Proofs.YtlcljanibjdejaaGreat
open Go.RowKit Go.Maps
def emptyN (n : List UInt8) : Bool := (n == [98, 114]) || (n == [104, 114]) || (n == [105, 109, 103])
def listN (n : List UInt8) : Bool := (n == [117, 108]) || (n == [111, 108])
def wallN (n : List UInt8) : Bool := listN n || (n == [108, 105]) || (n == [98, 108, 111, 99, 107, 113, 117, 111, 116, 101])
def blockN (n : List UInt8) : Bool := wallN n || (n == [112]) || (n == [104, 114])
/-- Nodes whose names are these lie in a row. -/
def Named (w : World) (v : Value) (ns : List (List UInt8)) : Prop :=
  ∃ a c, v = .slice a ns.length c ∧ ns.length ≤ c ∧ c ≤ maxLen ∧ ∀ i (h : i < ns.length), ∃ g x, a = some ⟨g, x, none⟩ ∧ w.cell? ⟨g, x + i * 4, none⟩ = some (.string ⟨ns[i].toArray⟩)
/-- The place of the innermost one that is looked for, of the first i ones. -/
def innerTo (is hides : List UInt8 → Bool) (ns : List (List UInt8)) : Nat → Nat
  | 0 => ns.length
  | i + 1 => if is (ns.getD i []) = true then i else if hides (ns.getD i []) = true then ns.length else innerTo is hides ns i
def innerL (is hides : List UInt8 → Bool) (ns : List (List UInt8)) : Nat := innerTo is hides ns ns.length
theorem Named.take {w : World} {a : Option Addr} {n c : Nat} {ns : List (List UInt8)} (h : Named w (.slice a n c) ns) {m : Nat} (hm : m ≤ ns.length) : Named w (.slice a m c) (ns.take m) := by
  obtain ⟨a', c', he, h1, h2, h3⟩ := h
  simp only [Value.slice.injEq] at he
  obtain ⟨rfl, rfl, rfl⟩ := he
  refine ⟨a, c, by rw [List.length_take, Nat.min_eq_left hm], by rw [List.length_take]; omega, h2, fun i hi => ?_⟩
  rw [List.length_take] at hi
  obtain ⟨g, x, e, hx⟩ := h3 i (by omega)
  exact ⟨g, x, e, by rw [List.getElem_take]; exact hx⟩
/-- Where an element of this name closes others from. -/
def closedL (ns : List (List UInt8)) (n : List UInt8) : Nat :=
  if n = [108, 105] then innerL (· == [108, 105]) listN (ns.take (if blockN n = true then innerL (· == [112]) wallN ns else ns.length))
  else if blockN n = true then innerL (· == [112]) wallN ns else ns.length
end Go.Proofs.YtlcljanibjdejaaGreat
namespace Go.Proofs.YtlcljanibjdejaaGreat
open Go.RowKit
set_option maxHeartbeats 1000000 in
theorem isName_all (s : ByteArray) (w : World) (hs : s.size ≤ maxLen) :
    Calls Tryz.prog 231 #[.string s] w fun e w' => e = .returned (.bool (isNameL s.data.toList)) ∧ w' = w := by
  by_cases h : s.size ≤ 3000
  · exact isName_any s w h
  · have hf : isNameL s.data.toList = false := by
      unfold isNameL
      have : decide (s.data.toList.length ≤ 20) = false := by have := len_size s; simp; omega
      rw [this]
      simp
    have hne : s.toList.isEmpty = false := by
      rw [ByteArray.toList_eq]
      have := len_size s
      cases hq : s.data.toList with
      | nil => rw [hq] at this; simp at this; omega
      | cons a b => rfl
    rw [hf]
    clear hf
    unfold maxLen at hs
    have hg : decide ((20 : Int) < (s.size : Int)) = true := by simp; omega
    go_enter Tryz.func231, Tryz.ntmps231
    go_wp2_with fail
    go_ret
    exact ⟨rfl, rfl⟩
end Go.Proofs.YtlcljanibjdejaaGreat
namespace Go.Proofs.YtlcljanibjdejaaGreat
open Go.RowKit Go.Maps
/-- What checkAttrs answers. -/
def chkA : List Pair → List (List UInt8) → Int
  | [], _ => 0
  | p :: r, met => if isNameL p.1 = false then 1 else if p.1 ∈ met then 6 else chkA r (met ++ [p.1])
theorem chkA_drop (l : List Pair) (k : Nat) (hk : k < l.length) (met : List (List UInt8)) : chkA (l.drop k) met = if isNameL l[k].1 = false then 1 else if l[k].1 ∈ met then 6 else chkA (l.drop (k + 1)) (met ++ [l[k].1]) := by
  rw [List.drop_eq_getElem_cons hk]
  rfl
/-- Names of attributes are no longer than a string of Go may be. -/
def Fits (l : List Pair) : Prop := ∀ p ∈ l, p.1.length ≤ maxLen
theorem enters231 : Enters 231 := enters_of Tryz.func231 (by kernel_rfl) (by kernel_rfl)
set_option maxRecDepth 4000 in
set_option maxHeartbeats 4000000 in
theorem checkAttrs_any (w : World) (v : Value) (l : List Pair) (hv : Lies w v l.length 2 (pairCells l)) (hf : Fits l) :
    Calls Tryz.prog 236 #[v, .func (.func 231) #[] #[]] w fun e w' => e = .returned (.int .i64 (chkA l [])) ∧ Keeps [] w w' := by
  have hE := enters231
  unfold Enters at hE
  obtain ⟨o, c, rfl, h1, h2⟩ := hv.form
  obtain ⟨R, hR⟩ : ∃ R, chkA l [] = R := ⟨_, rfl⟩
  rw [hR]
  have HR := hide hR
  clear hR
  unfold maxLen at h2
  have hmm := @run_makeMap Tryz.prog
  go_enter Tryz.func236, Tryz.ntmps236
  go_wp2_with fail
  have hset0 : IsSet (w.alloc (.map #[] 0)) w.heap.size [] := IsSet.made w
  have hk0 : Keeps [] w (w.alloc (.map #[] 0)) := (Keeps.refl [] w).alloc _
  go_loopw [13] (fun i wr => ∃ k : Nat, k ≤ l.length ∧ i = .int .i64 k ∧ IsSet wr w.heap.size ((l.take k).map (·.1)) ∧ Keeps [] w wr ∧ Hid (chkA (l.drop k) ((l.take k).map (·.1)) = R)) (fun i _ => l.length - (intOf i).toNat)
  case atStart => exact ⟨0, Nat.zero_le _, rfl, hset0, hk0, HR⟩
  case round =>
    obtain ⟨k, hk, rfl, hset, hkw, hC⟩ := hrel
    clear HR hset0 hk0
    by_cases hlt : k < l.length
    · obtain ⟨g, x, rfl, hc⟩ := (hv.keeps hkw).addr (by omega)
      have a0 := hc _ _ (pair_at0 l k hlt)
      have a1 := hc _ _ (pair_at1 l k hlt)
      rw [← Nat.add_assoc] at a1
      have hC1 := hC.out
      rw [chkA_drop l k hlt] at hC1
      have hfk : l[k].1.length ≤ maxLen := hf _ (List.getElem_mem hlt)
      have hts : (l.take (k + 1)).map (·.1) = (l.take k).map (·.1) ++ [l[k].1] := by rw [List.take_succ_eq_append_getElem hlt, List.map_append]; rfl
      have hml : ((l.take k).map (·.1)).length < maxLen := by simp; unfold maxLen; omega
      have HC1 := hide hC1
      clear hC hC1 hc
      generalize (l.take k).map (·.1) = met at *
      have HTS := hide hts
      clear hts
      generalize l[k] = p at *
      obtain ⟨n, v⟩ := p
      have hA : IsPair (wr.alloc (.cells #[.string ⟨n.toArray⟩, .string ⟨v.toArray⟩] 52)) wr.heap.size ⟨n.toArray⟩ ⟨v.toArray⟩ := heap_alloc_new wr _
      have hkA : Keeps [] wr (wr.alloc (.cells #[.string ⟨n.toArray⟩, .string ⟨v.toArray⟩] 52)) := (Keeps.refl [] wr).alloc _
      have hsetA := hset.keeps hkA List.not_mem_nil
      have hkwA := hkw.trans hkA
      have hnm := hide (fun w => isName_all ⟨n.toArray⟩ w hfk)
      rw [str_list] at hnm
      simp only at a0 a1
      go_wp2_with fail
      refine (hnm.out _).mono ?_
      rintro e w3 ⟨rfl, rfl⟩
      clear a0 a1
      have c0 := hA.cell0
      cases hin : isNameL n
      · have hR1 : R = 1 := by rw [← HC1.out]; simp [hin]
        subst hR1
        go_wp2_with fail
        go_ret
        exact ⟨rfl, hkwA⟩
      · by_cases hmt : n ∈ met
        · have hR6 : R = 6 := by rw [← HC1.out]; simp [hin, hmt]
          subst hR6
          have hd : decide (n ∈ met) = true := by simpa using hmt
          have hlook := hsetA.look n hfk
          rw [hd] at hlook
          go_wp2_with fail
          go_ret
          exact ⟨rfl, hkwA.alloc _⟩
        · have hd : decide (n ∈ met) = false := by simpa using hmt
          have hlook := hsetA.look n hfk
          rw [hd] at hlook
          have hk2 : Keeps [] wr ((wr.alloc (.cells #[.string ⟨n.toArray⟩, .string ⟨v.toArray⟩] 52)).alloc (.cells #[] 182)) := hkA.alloc _
          obtain ⟨w6, hup, hset6, hk6⟩ := (hset.keeps hk2 List.not_mem_nil).add n hfk hml
          have c0' := (hA.keeps ((Keeps.refl [] _).alloc (.cells #[] 182)) List.not_mem_nil).cell0
          have HC2 : Hid (chkA (l.drop (k + 1)) ((l.take (k + 1)).map (·.1)) = R) := by
            rw [HTS.out]
            have := HC1.out
            simp [hin, hmt] at this
            exact this
          have hkw6 : Keeps [] w w6 := ((hkw.trans hk2).up.trans hk6).mono fun i hi hlt => by simp at hi; omega
          have hset7 : IsSet w6 w.heap.size ((l.take (k + 1)).map (·.1)) := by rw [HTS.out]; exact hset6
          clear HC1
          go_wp2_with fail
          go_roundw
          case rel => exact ⟨k + 1, by omega, by go_num, hset7, hkw6, HC2⟩
          case measure => simp [intOf]; omega
    · have hRR : R = 0 := by
        rw [← hC.out, List.drop_eq_nil_of_le (by omega)]
        rfl
      subst hRR
      go_wp2_with fail
      go_ret
      exact ⟨rfl, hkw⟩
end Go.Proofs.YtlcljanibjdejaaGreat
namespace Go.Proofs.YtlcljanibjdejaaGreat
open Go.RowKit Go.Maps
/-- What checkToken answers. -/
def chkT (t : Tok) : Int :=
  if t.kind = 1 then (if t.name ≠ [] ∨ t.attrs ≠ [] ∨ t.text = [] then 1 else 0)
  else if t.kind = 2 then (if t.text ≠ [] ∨ isNameL t.name = false then 1 else chkA t.attrs [])
  else if t.kind = 3 then (if t.text ≠ [] ∨ t.attrs ≠ [] ∨ isNameL t.name = false then 1 else 0)
  else 7
/-- A token's names are no longer than a string of Go may be. -/
def FitsT (t : Tok) : Prop := t.name.length ≤ maxLen ∧ Fits t.attrs
theorem emptyB (x : List UInt8) : ((⟨x.toArray⟩ : ByteArray).toList == (⟨#[]⟩ : ByteArray).toList) = decide (x = []) := strEq x []
set_option maxRecDepth 4000 in
set_option maxHeartbeats 4000000 in
theorem checkToken_any (w : World) (kd : Int) (nm tx : List UInt8) (la : List Pair) (v : Value) (hv : Lies w v la.length 2 (pairCells la)) (hf : FitsT ⟨kd, nm, la, tx⟩) :
    Calls Tryz.prog 161 #[.agg #[.int .i64 kd, .string ⟨nm.toArray⟩, v, .string ⟨tx.toArray⟩]] w fun e w' => e = .returned (.int .i64 (chkT ⟨kd, nm, la, tx⟩)) ∧ Keeps [] w w' := by
  obtain ⟨o, c, rfl, h1, h2⟩ := hv.form
  unfold maxLen at h2
  have ha : Keeps [] w (w.alloc (.cells #[.int .i64 kd, .string ⟨nm.toArray⟩, .slice o la.length c, .string ⟨tx.toArray⟩] 117)) := (Keeps.refl [] w).alloc _
  have hnm := hide (fun w => isName_all ⟨nm.toArray⟩ w hf.1)
  rw [str_list] at hnm
  have hca := hide (fun (w' : World) (hk : Keeps [] w w') => checkAttrs_any w' _ la (hv.keeps hk) hf.2)
  obtain ⟨R, hR⟩ : ∃ R, chkT ⟨kd, nm, la, tx⟩ = R := ⟨_, rfl⟩
  rw [hR]
  unfold chkT at hR
  simp only at hR
  generalize chkA la [] = A at *
  have hal : la ≠ [] ↔ 0 < la.length := by cases la <;> simp
  by_cases k1 : kd = 1
  · subst k1
    rw [if_pos rfl] at hR
    by_cases n1 : nm = []
    · subst n1
      by_cases a1 : la = []
      · subst a1
        by_cases t1 : tx = []
        · subst t1
          simp at hR
          subst hR
          clear hal
          go_enter Tryz.func161, Tryz.ntmps161
          go_wp2_with fail
          go_ret
          exact ⟨rfl, ha⟩
        · simp [t1] at hR
          subst hR
          have he : tx.isEmpty = false := by simpa using t1
          clear hal
          go_enter Tryz.func161, Tryz.ntmps161
          go_wp2_with fail
          go_ret
          exact ⟨rfl, ha⟩
      · have hz := hal.1 a1
        simp [a1] at hR
        subst hR
        clear hal a1
        go_enter Tryz.func161, Tryz.ntmps161
        go_wp2_with fail
        go_ret
        exact ⟨rfl, ha⟩
    · simp [n1] at hR
      subst hR
      clear hal
      go_enter Tryz.func161, Tryz.ntmps161
      go_wp2_with fail
      go_ret
      exact ⟨rfl, ha⟩
  · rw [if_neg k1] at hR
    have e1 : (kd == 1) = false := by simpa using k1
    by_cases k2 : kd = 2
    · subst k2
      rw [if_pos rfl] at hR
      by_cases t1 : tx = []
      · subst t1
        cases hin : isNameL nm
        · rw [hin] at hnm
          simp [hin] at hR
          subst hR
          clear hal
          go_enter Tryz.func161, Tryz.ntmps161
          go_wp2_with fail
          refine (hnm.out _).mono ?_
          rintro e w1 ⟨rfl, rfl⟩
          go_wp2_with fail
          go_ret
          exact ⟨rfl, ha⟩
        · rw [hin] at hnm
          simp [hin] at hR
          subst hR
          clear hal
          go_enter Tryz.func161, Tryz.ntmps161
          go_wp2_with fail
          refine (hnm.out _).mono ?_
          rintro e w1 ⟨rfl, rfl⟩
          go_wp2_with fail
          refine (hca.out _ ha).mono ?_
          rintro e w2 ⟨rfl, hk2⟩
          go_wp2_with fail
          go_ret
          exact ⟨rfl, ha.trans hk2⟩
      · simp [t1] at hR
        subst hR
        clear hal
        go_enter Tryz.func161, Tryz.ntmps161
        go_wp2_with fail
        go_ret
        exact ⟨rfl, ha⟩
    · rw [if_neg k2] at hR
      have e2 : (kd == 2) = false := by simpa using k2
      by_cases k3 : kd = 3
      · subst k3
        rw [if_pos rfl] at hR
        by_cases t1 : tx = []
        · subst t1
          by_cases a1 : la = []
          · subst a1
            cases hin : isNameL nm
            · rw [hin] at hnm
              simp [hin] at hR
              subst hR
              clear hal
              go_enter Tryz.func161, Tryz.ntmps161
              go_wp2_with fail
              refine (hnm.out _).mono ?_
              rintro e w1 ⟨rfl, rfl⟩
              go_wp2_with fail
              go_ret
              exact ⟨rfl, ha⟩
            · rw [hin] at hnm
              simp [hin] at hR
              subst hR
              clear hal
              go_enter Tryz.func161, Tryz.ntmps161
              go_wp2_with fail
              refine (hnm.out _).mono ?_
              rintro e w1 ⟨rfl, rfl⟩
              go_wp2_with fail
              go_ret
              exact ⟨rfl, ha⟩
          · have hz := hal.1 a1
            simp [a1] at hR
            subst hR
            clear hal a1
            go_enter Tryz.func161, Tryz.ntmps161
            go_wp2_with fail
            go_ret
            exact ⟨rfl, ha⟩
        · simp [t1] at hR
          subst hR
          clear hal
          go_enter Tryz.func161, Tryz.ntmps161
          go_wp2_with fail
          go_ret
          exact ⟨rfl, ha⟩
      · rw [if_neg k3] at hR
        have e3 : (kd == 3) = false := by simpa using k3
        subst hR
        clear hal
        go_enter Tryz.func161, Tryz.ntmps161
        go_wp2_with fail
        go_ret
        exact ⟨rfl, ha⟩
end Go.Proofs.YtlcljanibjdejaaGreat
namespace Go.Proofs.YtlcljanibjdejaaGreat
open Go.RowKit Go.Maps
/-- What Check answers of tokens, behind one of a kind. -/
def chkFrom : Int → List Tok → Int
  | _, [] => 0
  | p, t :: r => if chkT t ≠ 0 then chkT t else if t.kind = 1 ∧ p = 1 then 4 else chkFrom t.kind r
def chkL (ts : List Tok) : Int := if 3000 < ts.length then 2 else chkFrom 0 ts
def prevK (l : List (Tok × Value)) (k : Nat) : Int := if k = 0 then 0 else (l[k - 1]?.map (·.1.kind)).getD 0
theorem prevK_succ (l : List (Tok × Value)) (k : Nat) (hk : k < l.length) : prevK l (k + 1) = l[k].1.kind := by
  simp [prevK, List.getElem?_eq_getElem hk]
theorem chkFrom_drop (l : List (Tok × Value)) (k : Nat) (hk : k < l.length) (p : Int) : chkFrom p ((l.drop k).map (·.1)) = if chkT l[k].1 ≠ 0 then chkT l[k].1 else if l[k].1.kind = 1 ∧ p = 1 then 4 else chkFrom l[k].1.kind ((l.drop (k + 1)).map (·.1)) := by
  rw [List.drop_eq_getElem_cons hk, List.map_cons]
  rfl
set_option maxRecDepth 4000 in
set_option maxHeartbeats 4000000 in
theorem check_any (w : World) (v : Value) (ts : List Tok) (hv : Toks w v ts) (hf : ∀ t ∈ ts, FitsT t) :
    Calls Tryz.prog 82 #[v] w fun e w' => e = .returned (.int .i64 (chkL ts)) ∧ Keeps [] w w' := by
  obtain ⟨l, rfl, hv, hva⟩ := hv
  obtain ⟨o, c, rfl, h1, h2⟩ := hv.form
  unfold maxLen at h2
  unfold chkL
  rw [List.length_map]
  by_cases hbig : 3000 < l.length
  · rw [if_pos hbig]
    have hgt : decide ((3000 : Int) < (l.length : Int)) = true := by simp; omega
    go_enter Tryz.func82, Tryz.ntmps82
    go_wp2_with fail
    go_ret
    exact ⟨rfl, Keeps.refl _ _⟩
  · rw [if_neg hbig]
    have hgt : decide ((3000 : Int) < (l.length : Int)) = false := by simp; omega
    obtain ⟨R, hR⟩ : ∃ R, chkFrom 0 (l.map (·.1)) = R := ⟨_, rfl⟩
    rw [hR]
    have HR := hide hR
    clear hR
    go_enter Tryz.func82, Tryz.ntmps82
    go_wp2_with fail
    go_loopw [11] (fun i wr => ∃ k : Nat, k ≤ l.length ∧ i = .int .i64 k ∧ Keeps [] w wr ∧ Hid (chkFrom (prevK l k) ((l.drop k).map (·.1)) = R)) (fun i _ => l.length - (intOf i).toNat)
    case atStart => exact ⟨0, Nat.zero_le _, rfl, Keeps.refl _ _, HR⟩
    case round =>
      obtain ⟨k, hk, rfl, hkw, hC⟩ := hrel
      clear HR
      by_cases hlt : k < l.length
      · obtain ⟨g, x, rfl, hc⟩ := (hv.keeps hkw).addr (by omega)
        obtain ⟨a0, a1, a2, a3⟩ := lies_tok hc k hlt
        have hC1 := hC.out
        rw [chkFrom_drop l k hlt] at hC1
        have hsuc := prevK_succ l k hlt
        have hfk := hf l[k].1 (List.mem_map_of_mem (List.getElem_mem hlt))
        have hpa := hva l[k] (List.getElem_mem hlt)
        have hpv : 0 < k → wr.cell? ⟨g, x + (k - 1) * 4, none⟩ = some (.int .i64 (prevK l k)) := fun h0 => by
          have h9 := (lies_tok hc (k - 1) (by omega)).1
          have e9 := prevK_succ l (k - 1) (by omega)
          rw [show k - 1 + 1 = k from by omega] at e9
          rw [e9]
          exact h9
        have HPV := hide hpv
        have HPK := hide (show k = 0 → prevK l k = 0 from fun h => by subst h; rfl)
        have HC1 := hide hC1
        have HSUC := hide hsuc
        clear hC hC1 hc hpv hsuc
        generalize prevK l k = pk at *
        generalize l[k] = p at *
        obtain ⟨⟨kp, np, ap, xp⟩, vp⟩ := p
        simp only at a0 a1 a2 a3 hpa
        obtain ⟨op, cp, rfl, hp1, hp2⟩ := hpa.form
        unfold maxLen at hp2
        have hkA : Keeps [] wr (wr.alloc (.cells #[.int .i64 kp, .string ⟨np.toArray⟩, .slice op ap.length cp, .string ⟨xp.toArray⟩] 117)) := (Keeps.refl [] wr).alloc _
        have hA : IsTok (wr.alloc (.cells #[.int .i64 kp, .string ⟨np.toArray⟩, .slice op ap.length cp, .string ⟨xp.toArray⟩] 117)) wr.heap.size (⟨kp, np, ap, xp⟩, .slice op ap.length cp) := heap_alloc_new wr _
        have hct := hide (checkToken_any _ kp np xp ap _ (hpa.keeps (hkw.trans hkA)) hfk)
        have HC2 := HC1.out
        simp only at HC2
        generalize chkT ⟨kp, np, ap, xp⟩ = E at *
        have HC3 := hide HC2
        clear HC1 HC2
        go_wp2_with fail
        refine hct.out.mono ?_
        rintro e w3 ⟨rfl, hk3⟩
        have hkw3 : Keeps [] w w3 := (hkw.trans hkA).trans hk3
        have hA3 := hA.keeps hk3 List.not_mem_nil
        have c0 : w3.cell? ⟨wr.heap.size, 0, none⟩ = some (.int .i64 kp) := by rw [hA3.cell 0]; rfl
        by_cases hE : E = 0
        · subst hE
          have hN : ¬ (kp = 1 ∧ pk = 1) → Hid (chkFrom (prevK l (k + 1)) ((l.drop (k + 1)).map (·.1)) = R) := fun hn => by
            have h9 := HC3.out
            rw [if_neg (by simp), if_neg hn] at h9
            rw [HSUC.out]
            exact h9
          have HN := hide hN
          clear hN
          by_cases h0 : k = 0
          · subst h0
            have HC4 := HN.out (fun h => by have := HPK.out rfl; omega)
            go_wp2_with fail
            go_roundw
            case rel => exact ⟨1, by omega, by go_num, hkw3, HC4⟩
            case measure => simp [intOf]; omega
          · have hpc := cell_keeps (hkA.trans hk3) (HPV.out (by omega))
            have hpos : decide ((0 : Int) < (k : Int)) = true := by simp; omega
            by_cases hk1 : kp = 1
            · subst hk1
              by_cases hq1 : pk = 1
              · subst hq1
                have hR4 : R = 4 := by rw [← HC3.out]; simp
                subst hR4
                go_wp2_with fail
                go_ret
                exact ⟨rfl, hkw3⟩
              · have HC4 := HN.out (fun h => hq1 h.2)
                have hqb : (pk == 1) = false := by simpa using hq1
                go_wp2_with fail
                go_roundw
                case rel => exact ⟨k + 1, by omega, by go_num, hkw3, HC4⟩
                case measure => simp [intOf]; omega
            · have HC4 := HN.out (fun h => hk1 h.1)
              have hqb : (kp == 1) = false := by simpa using hk1
              go_wp2_with fail
              go_roundw
              case rel => exact ⟨k + 1, by omega, by go_num, hkw3, HC4⟩
              case measure => simp [intOf]; omega
        · have hEb : (E != 0) = true := by simpa using hE
          have hRE : R = E := by rw [← HC3.out]; simp [hE]
          subst hRE
          go_wp2_with fail
          go_ret
          exact ⟨rfl, hkw3⟩
      · have hRR : R = 0 := by
          rw [← hC.out, List.drop_eq_nil_of_le (by omega)]
          rfl
        subst hRR
        go_wp2_with fail
        go_ret
        exact ⟨rfl, hkw⟩
end Go.Proofs.YtlcljanibjdejaaGreat
