/- WriteString, with what it leaves as it was: all but the builder and rows of bytes from B on. printText, of a text that is no longer than one that is read. printOpen, Print. Package stop: what gives up with an error, and Caught, which tells it. Strict trees, as functions: what Read, Check and Print answer; what is printed is read as it was; what is read is right. -/
import Derived.Test.YtlcljanibjdejaaGreatXb05
import Derived.Laws.ResultCell
namespace Go.Proofs.YtlcljanibjdejaaGreat
open Go.RowKit Go.Maps
structure KeepsB (B b : Nat) (w w' : World) : Prop where
  os : w'.os = w.os
  tape : w'.tape = w.tape
  output : w'.output = w.output
  size : w.heap.size ≤ w'.heap.size
  block : ∀ k, k < w.heap.size → k ≠ b → (k < B ∨ ∀ cs f, w.heap[k]? ≠ some (.cells cs 5 f)) → w'.heap[k]? = w.heap[k]?
theorem KeepsB.refl (B b : Nat) (w : World) : KeepsB B b w w := ⟨rfl, rfl, rfl, Nat.le_refl _, fun _ _ _ _ => rfl⟩
theorem KeepsB.trans {B b : Nat} {x y z : World} (h : KeepsB B b x y) (k : KeepsB B b y z) : KeepsB B b x z :=
  ⟨k.os.trans h.os, k.tape.trans h.tape, k.output.trans h.output, Nat.le_trans h.size k.size, fun i hi hb hc =>
    (k.block i (Nat.lt_of_lt_of_le hi h.size) hb (by rw [h.block i hi hb hc]; exact hc)).trans (h.block i hi hb hc)⟩
theorem KeepsB.of {B b : Nat} {w w' : World} (h : Keeps [] w w') : KeepsB B b w w' := ⟨h.os, h.tape, h.output, h.size, fun k hk _ _ => h.block k hk List.not_mem_nil⟩
theorem KeepsB.nil {B b : Nat} {w0 w w' : World} (h0 : Keeps [] w0 w) (h : KeepsB B b w w') (hB : w0.heap.size ≤ B) (hb : B ≤ b) : Keeps [] w0 w' :=
  ⟨h.os.trans h0.os, h.tape.trans h0.tape, h.output.trans h0.output, Nat.le_trans h0.size h.size, fun k hk _ => (h.block k (Nat.lt_of_lt_of_le hk h0.size) (by omega) (.inl (by omega))).trans (h0.block k hk List.not_mem_nil)⟩
theorem KeepsB.tok {B b : Nat} {w w' : World} {g : Nat} {p : Tok × Value} (h : KeepsB B b w w') (ht : IsTok w g p) (hg : g ≠ b) : IsTok w' g p := by
  rw [IsTok, h.block g ht.lt hg (.inr (fun cs f e => by rw [show w.heap[g]? = _ from ht] at e; simp at e))]; exact ht
theorem KeepsB.pair {B b : Nat} {w w' : World} {g : Nat} {x y : ByteArray} (h : KeepsB B b w w') (ht : IsPair w g x y) (hg : g ≠ b) : IsPair w' g x y := by
  rw [IsPair, h.block g ht.lt hg (.inr (fun cs f e => by rw [show w.heap[g]? = _ from ht] at e; simp at e))]; exact ht
theorem KeepsB.set {B b : Nat} {w w' : World} (h : KeepsB B b w w') (j : Nat) (u : Value) : KeepsB B b w (w'.setCell ⟨b, j, none⟩ u) :=
  ⟨h.os, h.tape, h.output, Nat.le_trans h.size (by simp [World.setCell]), fun k hk hb hc => by rw [Below.heap_setCell _ _ _ _ hb]; exact h.block k hk hb hc⟩
theorem copyCheck_keeps (B b : Nat) (bs : List Value) (w : World) (h : Lib.IsBuilder 134 5 B b bs w) :
    Calls Tryz.prog 214 #[.pointer (some ⟨b, 0, none⟩)] w fun e w' => e = .returned (.tuple #[]) ∧ (Lib.BuilderAt 134 5 B b (.pointer (some ⟨b, 0, none⟩)) bs w' ∧ KeepsB B b w w') := by
  rcases h with h | h
  · refine (copyCheck_fresh b w h.cell0 h.shape h.frozen0).mono ?_
    rintro e w' ⟨rfl, rfl⟩
    exact ⟨rfl, h.used _, (KeepsB.refl B b w).set 0 _⟩
  · refine (copyCheck_used b w h.cell0).mono ?_
    rintro e w' ⟨rfl, rfl⟩
    exact ⟨rfl, h, KeepsB.refl _ _ _⟩
set_option maxHeartbeats 2000000 in
set_option maxRecDepth 100000 in
theorem write_str' (B b : Nat) (bs : List Value) (s : ByteArray) (w : World) (h : Lib.IsBuilder 134 5 B b bs w) (hlen : bs.length + s.size ≤ 140737488355328) (hBw : B ≤ w.heap.size) :
    Calls Tryz.prog 144 #[.pointer (some ⟨b, 0, none⟩), .string s] w fun e w' => e = .returned (.tuple #[.int .i64 s.size, .nilIface]) ∧ (Lib.BuilderAt 134 5 B b (.pointer (some ⟨b, 0, none⟩)) (bs ++ Lib.strCells s) w' ∧ KeepsB B b w w') := by
  obtain ⟨i0, hi, hz0, hz1, hz2⟩ := info_parts Tryz.info5
  go_enter Tryz.func144, Tryz.ntmps144
  go_wp2_with fail
  refine (copyCheck_keeps B b bs _ h).mono ?_
  rintro e w1 ⟨rfl, h1, hb1⟩
  obtain ⟨hB, v, hbk, hown, hne⟩ := h1
  have c0 : w1.cell? ⟨b, 0, none⟩ = some (.pointer (some ⟨b, 0, none⟩)) := by rw [Lib.cell_of_heap hbk]; rfl
  have c1 : w1.cell? ⟨b, 1, none⟩ = some v := by rw [Lib.cell_of_heap hbk]; rfl
  go_wp2_with (at_builtin; refine Lib.wpList_append_own_string _ rfl _ _ 107 9 rfl B 5 i0 Tryz.underlying107 Tryz.underlying9 hi hz0 hz1 hz2 _ _ _ rfl hown s rfl ?c3 ?c4 ?c5 ?_)
  case c3 => unfold maxLen; omega
  case c4 => omega
  case c5 => have := hb1.size; omega
  intro v' w2 hown' hgrow _
  have hlt : b < w1.heap.size := lt_of_block hbk
  have hb2 : w2.heap[b]? = some (.cells #[.pointer (some ⟨b, 0, none⟩), v] 134 (0, 0)) := by
    rw [hgrow.block b hlt (fun e => hne e.symm)]
    exact hbk
  have d0 : w2.cell? ⟨b, 0, none⟩ = some (.pointer (some ⟨b, 0, none⟩)) := by rw [Lib.cell_of_heap hb2]; rfl
  have d1 : w2.cell? ⟨b, 1, none⟩ = some v := by rw [Lib.cell_of_heap hb2]; rfl
  have f1 : w2.frozen? ⟨b, 1, none⟩ = false := Lib.frozen_of_heap hb2 1
  have hk2 : KeepsB B b w1 w2 := ⟨hgrow.os, hgrow.tape, hgrow.output, hgrow.size, fun k hk _ hc => hgrow.block k hk (fun e => by
    have hv := e.symm
    rcases hc with hc | hc
    · have := (hown.lt k hv).1; omega
    · rcases hown.2 with ⟨rfl, _⟩ | ⟨g, cap, cur, rfl, _, hg, _⟩
      · simp [Value.ownBlock] at hv
      · simp only [Value.ownBlock, Option.some.injEq] at hv
        rw [hv] at hg
        exact hc _ _ hg)⟩
  obtain ⟨ao, cap, rfl⟩ := row_form hown'
  go_wp2
  go_ret2
  refine ⟨rfl, ?_, (hb1.trans hk2).set 1 _⟩
  exact Lib.BuilderAt.put (T := 134) (e := 5) hB hb2 (bs' := bs ++ Lib.strCells s) (by simpa [Lib.strCells_length] using hown') (by decide)
theorem write_all (B b : Nat) (l t : List UInt8) (w : World) (h : IsBld B b l w) (hlen : l.length + t.length ≤ 1000000000) (hBw : B ≤ w.heap.size) :
    Calls Tryz.prog 144 #[.pointer (some ⟨b, 0, none⟩), .string ⟨t.toArray⟩] w fun e w' => e = .returned (.tuple #[.int .i64 t.length, .nilIface]) ∧ IsBld B b (l ++ t) w' ∧ KeepsB B b w w' := by
  refine (write_str' B b _ ⟨t.toArray⟩ w h (by rw [Lib.byteCells_length, str_size]; omega) hBw).mono ?_
  rintro e w' ⟨rfl, h1, h2⟩
  refine ⟨rfl, .inr ?_, h2⟩
  have e2 : Lib.byteCells (l ++ t) = Lib.byteCells l ++ Lib.strCells ⟨t.toArray⟩ := by simp [Lib.byteCells, Lib.strCells]
  rw [e2]
  exact h1
end Go.Proofs.YtlcljanibjdejaaGreat
namespace Go.Proofs.YtlcljanibjdejaaGreat
open Go.RowKit Go.Maps
theorem IsBld.keeps {B b : Nat} {l : List UInt8} {w w' : World} (h : IsBld B b l w) (hk : Keeps [] w w') : IsBld B b l w' := by
  rcases h with ⟨hB, v, hb, ho, hne⟩ | ⟨hB, v, hb, ho, hne⟩
  · exact .inl ⟨hB, v, by rw [hk.block b (lt_of_block hb) List.not_mem_nil]; exact hb, hk.owns ho (fun _ _ => List.not_mem_nil), hne⟩
  · exact .inr ⟨hB, v, by rw [hk.block b (lt_of_block hb) List.not_mem_nil]; exact hb, hk.owns ho (fun _ _ => List.not_mem_nil), hne⟩
end Go.Proofs.YtlcljanibjdejaaGreat
namespace Go.Proofs.YtlcljanibjdejaaGreat
open Go.RowKit Go.Maps
/-- An attribute as it is printed. -/
def pairP (p : Pair) : List UInt8 := [32] ++ p.1 ++ [61, 34] ++ putL p.2 ++ [34]
def pairsP (l : List Pair) : List UInt8 := l.flatMap pairP
def openP (t : Tok) : List UInt8 := [60] ++ t.name ++ pairsP t.attrs ++ [62]
def tokP (t : Tok) : List UInt8 := if t.kind = 1 then putL t.text else if t.kind = 2 then openP t else [60, 47] ++ t.name ++ [62]
def toksP (l : List Tok) : List UInt8 := l.flatMap tokP
theorem pairsP_take (l : List Pair) (k : Nat) (hk : k < l.length) : pairsP (l.take (k + 1)) = pairsP (l.take k) ++ pairP l[k] := by
  rw [List.take_succ_eq_append_getElem hk]
  unfold pairsP
  rw [List.flatMap_append]
  simp
theorem app2 (a x : List UInt8) : ((⟨a.toArray⟩ : ByteArray) ++ ⟨x.toArray⟩) = ⟨(a ++ x).toArray⟩ := WideShapes.bytes_inj (by simp)
theorem toksP_take (l : List (Tok × Value)) (k : Nat) (hk : k < l.length) : toksP ((l.take (k + 1)).map (·.1)) = toksP ((l.take k).map (·.1)) ++ tokP l[k].1 := by
  rw [List.take_succ_eq_append_getElem hk, List.map_append]
  unfold toksP
  rw [List.flatMap_append]
  simp
theorem bld_new (w : World) : IsBld w.heap.size w.heap.size [] (w.alloc (.cells #[.pointer none, .slice none 0 0] 134)) :=
  .inl ⟨Nat.le_refl _, .slice none 0 0, heap_alloc_new w _, World.ownsRow_nil _ _ _ _, by simp [Value.ownBlock]⟩
end Go.Proofs.YtlcljanibjdejaaGreat
namespace Go.Proofs.YtlcljanibjdejaaGreat
open Go.RowKit
theorem keeps_on {S T : List Nat} {a b c : World} (h : Keeps T a b) (k : Keeps S b c) (hS : ∀ g, g ∈ S → g < a.heap.size → g ∈ T) : Keeps T a c :=
  ⟨k.os.trans h.os, k.tape.trans h.tape, k.output.trans h.output, Nat.le_trans h.size k.size, fun i hi hT => (k.block i (Nat.lt_of_lt_of_le hi h.size) (fun hm => hT (hS i hm hi))).trans (h.block i hi hT)⟩
/-- What is given up with: an error. -/
def stopped (e : Int) : List PanicEntry := [{ v := .iface 168 (.agg #[.int .i64 e]), recovered := false }]
set_option maxHeartbeats 400000 in
theorem with_any (e : Int) (w : World) : Calls Tryz.prog 141 #[.int .i64 e] w fun r w' => r = .panicked (stopped e) ∧ w' = w := by
  go_enter Tryz.func141, Tryz.ntmps141
  go_wp2
  exact ⟨rfl, rfl, rfl⟩
theorem laid140 (x n : Value) : (#[x] ++ ((Array.replicate 16 undef).setIfInBounds 3 n).setIfInBounds 0 n) = #[x, n, undef, undef, n, undef, undef, undef, undef, undef, undef, undef, undef, undef, undef, undef, undef] := by kernel_rfl
set_option maxHeartbeats 400000 in
theorem caught_idle (p : Addr) (w : World) :
    CallsD Tryz.prog 140 #[.pointer (some p)] .returning w fun e u' w' => e = .returned (.tuple #[]) ∧ u' = .returning ∧ w' = w := by
  refine callsD_of_wpS Tryz.func140 rfl fun c₀ cs hu => ?_
  apply wpS_seq
  apply wpS_region
  simp [wpOpsS, go_sem, recoverD, hu, Tryz.ntmps140, Exit.thenS]
  rw [laid140]
  refine wpS_of_wp ?_
  go_wp2
  cases c₀
  simp_all [bodyPostS, results, Tryz.results140]
theorem assert168 (e : Int) (w : World) : (Instr.typeAssert (.iface 168 (.agg #[.int .i64 e])) 20 168 true).run Tryz.prog w = .ok (.tuple #[.agg #[.int .i64 e], .bool true]) w := by kernel_rfl
set_option maxRecDepth 100000 in
set_option maxHeartbeats 400000 in
theorem caught_panicking (x e : Int) (pe : Nat) (w : World) (hf : w.heap[pe]? = some (.cells #[.int .i64 x] 22 (0, 0))) :
    CallsD Tryz.prog 140 #[.pointer (some ⟨pe, 0, none⟩)] (.panicking (stopped e)) w fun r u' w' =>
      r = .returned (.tuple #[]) ∧ u' = .panicking [{ v := .iface 168 (.agg #[.int .i64 e]), recovered := true }] ∧ w'.cell? ⟨pe, 0, none⟩ = some (.int .i64 e) ∧ Keeps [pe] w w' := by
  refine callsD_of_wpS Tryz.func140 rfl fun c₀ cs hu => ?_
  unfold stopped at hu
  have hlt : pe < w.heap.size := lt_of_block hf
  have blk : ∀ o, (w.alloc o).heap[pe]? = some (.cells #[.int .i64 x] 22 (0, 0)) := fun o => (Below.heap_alloc w o _ hlt).trans hf
  have ce : ∀ o, (w.alloc o).cell? ⟨pe, 0, none⟩ = some (.int .i64 x) := fun o => cell_of_one (blk o)
  have fe : ∀ o, (w.alloc o).frozen? ⟨pe, 0, none⟩ = false := fun o => by simp [World.frozen?, blk o]
  have hta := assert168 e
  apply wpS_seq
  apply wpS_region
  simp [wpOpsS, go_sem, recoverD, hu, Tryz.ntmps140, Exit.thenS]
  rw [laid140]
  clear hu
  refine wpS_of_wp ?_
  go_wp2
  refine ⟨rfl, _, rfl, .tuple #[], by simp [results, Tryz.results140], rfl, rfl, ?_, ((Keeps.refl [pe] w).setCell (p := ⟨pe, 0, none⟩) (.inl (by simp)) _).alloc _⟩
  refine (World.cell?_of_block (Below.heap_alloc _ _ _ (by simpa [World.setCell] using hlt))).trans ?_
  simp [World.cell?, World.setCell, Array.getElem?_modify, hf]
set_option maxRecDepth 100000 in
set_option maxHeartbeats 1000000 in
/-- Caught, whatever is done: K does it, or gives up with an error; S lists what K may turn. -/
theorem caught_any (K : Nat) (caps : Array Value) (Yes : World → Prop) (No : Int → World → Prop) (S : List Nat) (w : World) (hK : Enters K) (hS : ∀ i, i ∈ S → i < w.heap.size)
    (hY : ∀ w2 w3, w2.heap[w.heap.size]? = some (.cells #[.int .i64 0] 22 (0, 0)) → Yes w2 → Keeps [w.heap.size] w2 w3 → Yes w3) (hN : ∀ x w2 w3, w2.heap[w.heap.size]? = some (.cells #[.int .i64 0] 22 (0, 0)) → No x w2 → Keeps [w.heap.size] w2 w3 → No x w3)
    (hdo : ∀ w1, Keeps [] w w1 → w.heap.size < w1.heap.size → Calls Tryz.prog K caps w1 fun e w2 => (e = .returned (.tuple #[]) ∧ Yes w2 ∨ ∃ x, e = .panicked (stopped x) ∧ No x w2) ∧ Keeps S w1 w2) :
    Calls Tryz.prog 64 #[.func (.func K) #[] caps] w fun e w' =>
      (e = .returned (.int .i64 0) ∧ Yes w' ∨ ∃ x, e = .returned (.int .i64 x) ∧ No x w') ∧ Keeps S w w' := by
  have hmf : ∀ (fn : Fn) (first cap : Array Value) (w : World), (Instr.makeFunc fn first cap).run Tryz.prog w = .ok (.func fn first cap) w := fun _ _ _ _ => rfl
  have hK' := hK
  unfold Enters at hK'
  have hka : Keeps [] w (w.alloc (.cells #[.int .i64 0] 22)) := (Keeps.refl [] w).alloc _
  have hkS : ∀ w2, Keeps S (w.alloc (.cells #[.int .i64 0] 22)) w2 → Keeps S w w2 := fun w2 h => ((Keeps.refl S w).alloc _).trans h
  have hnew : (w.alloc (.cells #[.int .i64 0] 22)).heap[w.heap.size]? = some (.cells #[.int .i64 0] 22 (0, 0)) := heap_alloc_new w _
  have hns : w.heap.size ∉ S := fun h => by have := hS _ h; omega
  go_enter_defers Tryz.func64, Tryz.ntmps64
  go_wp2_with fail
  refine (hdo _ hka (by simp)).mono ?_
  rintro e w2 ⟨⟨rfl, hy⟩ | ⟨x, rfl, hno⟩, hk⟩
  · have hb2 : w2.heap[w.heap.size]? = some (.cells #[.int .i64 0] 22 (0, 0)) := (hk.block _ (by simp) hns).trans hnew
    have c2 : w2.cell? ⟨w.heap.size, 0, none⟩ = some (.int .i64 0) := cell_of_one hb2
    have f2 : w2.frozen? ⟨w.heap.size, 0, none⟩ = false := by simp [World.frozen?, hb2]
    go_wp2_with fail
    refine leaves_cons (f := 140) (args := #[.pointer (some ⟨w.heap.size, 0, none⟩)]) (by simp) (by simp [go_sem]) ?_
    refine (caught_idle _ _).mono ?_
    rintro e u' w3 ⟨rfl, rfl, rfl⟩
    have hks : Keeps [w.heap.size] w2 (w2.setCell ⟨w.heap.size, 0, none⟩ (.int .i64 0)) := (Keeps.refl _ w2).setCell (.inl (by simp)) _
    refine ⟨.int .i64 0, ?_, .inl ⟨rfl, hY _ _ hb2 hy hks⟩, ?_⟩
    · simp [results, Tryz.results64, asAddr, loadVar, go_sem, World.cell?, World.setCell, Array.getElem?_modify, hb2]
    · exact keeps_on (hkS _ hk) hks (fun i hi hlt => by simp at hi; omega)
  · have hb2 : w2.heap[w.heap.size]? = some (.cells #[.int .i64 0] 22 (0, 0)) := (hk.block _ (by simp) hns).trans hnew
    go_wp2_with fail
    refine leaves_cons (f := 140) (args := #[.pointer (some ⟨w.heap.size, 0, none⟩)]) (by simp) (by simp [go_sem]) ?_
    refine (caught_panicking 0 x w.heap.size w2 hb2).mono ?_
    rintro e u' w3 ⟨rfl, rfl, c3, hk3⟩
    refine ⟨.int .i64 x, ?_, .inr ⟨x, rfl, hN _ _ _ hb2 hno hk3⟩, ?_⟩
    · simp [results, Tryz.results64, asAddr, loadVar, go_sem, c3]
    · exact keeps_on (hkS _ hk) hk3 (fun i hi hlt => by simp at hi; omega)
end Go.Proofs.YtlcljanibjdejaaGreat
namespace Go.Proofs.YtlcljanibjdejaaGreat
open Go.RowKit Go.Maps
def whiteX (c : UInt8) : Bool := c == 9 || c == 10 || c == 13 || c == 32
def begX (c : UInt8) : Bool := letterB c || c == 95
def inX (c : UInt8) : Bool := begX c || digB c || c == 45 || c == 46 || c == 58
/-- Is it a TITLE? -/
def isTitleL (l : List UInt8) : Bool := match l with
  | [] => false
  | c :: r => decide (r.length + 1 ≤ 20) && begX c && r.all inX
def notQ (q c : UInt8) : Bool := c != q && c != 60
abbrev Rx (α : Type) := Except Int (α × List UInt8)
def mustX (m l : List UInt8) : Except Int (List UInt8) := if m.isPrefixOf l = true then .ok (l.drop m.length) else .error 1
def titleX (l : List UInt8) : Rx (List UInt8) := if isTitleL (l.takeWhile inX) = true then .ok (l.takeWhile inX, l.dropWhile inX) else .error 1
def toX (m l : List UInt8) : Rx (List UInt8) := match endOf m l with
  | some n => .ok (l.take (n - m.length), l.drop n)
  | none => .error 1
def remX (l : List UInt8) : Option (Rx (List UInt8)) :=
  if [60, 33, 45, 45].isPrefixOf l = true then some (toX [45, 45, 62] (l.drop 4)) else if [60, 63].isPrefixOf l = true then some (toX [63, 62] (l.drop 2)) else none
def strictX (raw r : List UInt8) : Rx (List UInt8) := if (takeL raw).2 = true then .ok ((takeL raw).1, r) else .error 1
def quoteX (l : List UInt8) : UInt8 := if [34].isPrefixOf l = true then 34 else 39
def valueX (l : List UInt8) : Rx (List UInt8) :=
  match mustX [quoteX l] l with
  | .error e => .error e
  | .ok l1 => match mustX [quoteX l] (l1.dropWhile (notQ (quoteX l))) with
    | .error e => .error e
    | .ok l2 => strictX (l1.takeWhile (notQ (quoteX l))) l2
def attrX (l : List UInt8) : Rx Pair :=
  match titleX l with
  | .error e => .error e
  | .ok (n, l1) => match mustX [61] (l1.dropWhile whiteX) with
    | .error e => .error e
    | .ok l2 => match valueX (l2.dropWhile whiteX) with
      | .error e => .error e
      | .ok (v, l3) => .ok ((n, v), l3)
def headX (f : UInt8 → Bool) : List UInt8 → Bool
  | [] => false
  | c :: _ => f c
def attrsX : Nat → List Pair → List UInt8 → Rx (List Pair)
  | 0, met, l => .ok (met, l)
  | f + 1, met, l =>
    if (headX whiteX l && headX begX (l.dropWhile whiteX)) = true then
      match attrX (l.dropWhile whiteX) with
      | .error e => .error e
      | .ok (a, r) => if (met.any fun p => p.1 == a.1) = true then .error 6 else attrsX f (met ++ [a]) r
    else .ok (met, l.dropWhile whiteX)
def endX (n l : List UInt8) : Except Int (List UInt8) :=
  match mustX [60, 47] l with
  | .error e => .error e
  | .ok l1 => match titleX l1 with
    | .error e => .error e
    | .ok (m, l2) => if (m == n) = true then mustX [62] (l2.dropWhile whiteX) else .error 4
def cdata : List UInt8 := [60, 33, 91, 67, 68, 65, 84, 65, 91]
/-- The element's tag: its title, its attributes; a tag of which nothing is in it ends so. -/
def tagX (d : Nat) (l : List UInt8) : Rx (List UInt8 × List Pair × Bool) :=
  match mustX [60] l with
  | .error e => .error e
  | .ok l1 => match titleX l1 with
    | .error e => .error e
    | .ok (n, l2) => if 8 < d then .error 2 else match attrsX (l2.length + 1) [] l2 with
      | .error e => .error e
      | .ok (a, l3) => if [47, 62].isPrefixOf l3 = true then .ok ((n, a, true), l3.drop 2) else match mustX [62] l3 with
        | .error e => .error e
        | .ok l4 => .ok ((n, a, false), l4)
/-- What stands in an element, but for elements: nothing (what is passed), or a text. -/
inductive PieceX where
  | over (r : Except Int (List UInt8))
  | kid
  | said (r : Rx (List UInt8))
def pieceX (l : List UInt8) : PieceX :=
  match l with
  | [] => .over (.error 1)
  | _ :: _ => match remX l with
    | some (.error e) => .over (.error e)
    | some (.ok (_, r)) => .over (.ok r)
    | none => if cdata.isPrefixOf l = true then .said (toX [93, 93, 62] (l.drop 9))
      else if [60].isPrefixOf l = true then .kid
      else .said (strictX (l.takeWhile noLt) (l.dropWhile noLt))
mutual
def elementX : Nat → Nat → List UInt8 → Rx Nd
  | 0, _, _ => .error 1
  | f + 1, d, l => match tagX d l with
    | .error e => .error e
    | .ok ((n, a, true), r) => .ok (.mk n a [] [], r)
    | .ok ((n, a, false), r) => match kidsX f d ⟨[], []⟩ r with
      | .error e => .error e
      | .ok (ks, r2) => match endX n r2 with
        | .error e => .error e
        | .ok r3 => .ok (.mk n a [] ks, r3)
def kidsX : Nat → Nat → Lst → List UInt8 → Rx (List Nd)
  | 0, _, _, _ => .error 1
  | f + 1, d, acc, l => if [60, 47].isPrefixOf l = true then .ok (acc.done, l) else match pieceX l with
    | .over (.error e) => .error e
    | .over (.ok r) => kidsX f d acc r
    | .said (.error e) => .error e
    | .said (.ok (t, r)) => kidsX f d (acc.put (textN t)) r
    | .kid => match elementX f (d + 1) l with
      | .error e => .error e
      | .ok (n, r) => kidsX f d (acc.put n) r
end
def miscX : Nat → List UInt8 → Except Int (List UInt8)
  | 0, l => .ok l
  | f + 1, l => if headX whiteX l = true then miscX f (l.dropWhile whiteX) else match remX l with
    | none => .ok l
    | some (.error e) => .error e
    | some (.ok (_, r)) => miscX f r
def docX (l : List UInt8) : Except Int Nd :=
  match miscX (l.length + 1) l with
  | .error e => .error e
  | .ok l1 => match elementX (2 * l1.length + 2) 1 l1 with
    | .error e => .error e
    | .ok (n, l2) => match miscX (l2.length + 1) l2 with
      | .error e => .error e
      | .ok [] => .ok n
      | .ok (_ :: _) => .error 1
def chkAX : List Pair → List (List UInt8) → Int
  | [], _ => 0
  | p :: r, met => if isTitleL p.1 = false then 1 else if p.1 ∈ met then 6 else chkAX r (met ++ [p.1])
mutual
def printX : Nd → List UInt8
  | .mk n a t k => if n = [] then putL t else [60] ++ (n ++ (pairsP a ++ (if k.isEmpty = true then [47, 62] else [62] ++ (printXs k ++ ([60, 47] ++ (n ++ [62]))))))
def printXs : List Nd → List UInt8
  | [] => []
  | n :: r => printX n ++ printXs r
end
/-- Nodes that are right as what is in an element; deep: how deep they may be. -/
def RtX : Nat → Bool → List Nd → Prop
  | _, _, [] => True
  | m, prev, .mk n a t k :: r =>
    if n = [] then t ≠ [] ∧ a = [] ∧ k = [] ∧ prev = false ∧ RtX m true r
    else t = [] ∧ isTitleL n = true ∧ chkAX a [] = 0 ∧ 1 ≤ m ∧ RtX (m - 1) false k ∧ RtX m false r
def endTX : Bool → List Nd → Bool
  | p, [] => p
  | _, .mk n _ _ _ :: r => endTX n.isEmpty r
theorem dropWhile_not (f : UInt8 → Bool) (c : UInt8) (l : List UInt8) (h : f c = false) : (c :: l).dropWhile f = c :: l := by simp [h]
theorem takeWhile_all (f : UInt8 → Bool) (a : List UInt8) (ha : ∀ x ∈ a, f x = true) (c : UInt8) (l : List UInt8) (h : f c = false) : (a ++ c :: l).takeWhile f = a ∧ (a ++ c :: l).dropWhile f = c :: l := by
  induction a with
  | nil => simp [h]
  | cons x a ih =>
    have := ih (fun y hy => ha y (by simp [hy]))
    simp [ha x (by simp), this]
theorem titleX_all {n : List UInt8} (h : isTitleL n = true) : (∀ x ∈ n, inX x = true) ∧ ∃ c r, n = c :: r ∧ begX c = true := by
  unfold isTitleL at h
  cases n with
  | nil => simp at h
  | cons c r =>
    simp at h
    refine ⟨fun x hx => ?_, c, r, rfl, h.1.2⟩
    rcases List.mem_cons.1 hx with rfl | hx
    · simp [inX, h.1.2]
    · exact h.2 x hx
theorem titleX_of {n : List UInt8} (h : isTitleL n = true) (c : UInt8) (l : List UInt8) (hc : inX c = false) : titleX (n ++ c :: l) = .ok (n, c :: l) := by
  have h2 := takeWhile_all inX n (titleX_all h).1 c l hc
  unfold titleX
  rw [h2.1, h2.2, if_pos h]
theorem mustX_of (m l : List UInt8) : mustX m (m ++ l) = .ok l := by
  unfold mustX
  rw [if_pos (by simp)]
  simp
theorem putB_no (c x : UInt8) (h : x ∈ putB c) : x ≠ 60 ∧ x ≠ 34 := by
  unfold putB at h
  split at h
  · simp at h; rcases h with rfl | rfl | rfl | rfl | rfl <;> decide
  · split at h
    · simp at h; rcases h with rfl | rfl | rfl | rfl <;> decide
    · split at h
      · simp at h; rcases h with rfl | rfl | rfl | rfl <;> decide
      · split at h
        · simp at h; rcases h with rfl | rfl | rfl | rfl | rfl | rfl <;> decide
        · simp at h; subst h; exact ⟨by assumption, by assumption⟩
theorem putL_no (l : List UInt8) : ∀ x ∈ putL l, x ≠ 60 ∧ x ≠ 34 := by
  intro x hx
  obtain ⟨c, _, hc⟩ := List.mem_flatMap.1 hx
  exact putB_no c x hc
theorem putB_neX (c : UInt8) : putB c ≠ [] := by
  unfold putB
  repeat' split
  all_goals simp
theorem putL_ne {l : List UInt8} (h : l ≠ []) : putL l ≠ [] := by
  cases l with
  | nil => exact absurd rfl h
  | cons c r =>
    intro h2
    have : putB c ++ putL r = [] := h2
    exact putB_neX c (List.append_eq_nil_iff.1 this).1
theorem strictX_put (v r : List UInt8) : strictX (putL v) r = .ok (v, r) := by
  unfold strictX
  rw [takeL_putL]
  rfl
theorem valueX_of (v l : List UInt8) : valueX (34 :: (putL v ++ 34 :: l)) = .ok (v, l) := by
  have hq : quoteX (34 :: (putL v ++ 34 :: l)) = 34 := rfl
  have h2 := takeWhile_all (notQ 34) (putL v) (fun x hx => by have := putL_no v x hx; simp [notQ, this]) 34 l (by decide)
  unfold valueX
  rw [hq, show (34 :: (putL v ++ 34 :: l) : List UInt8) = [34] ++ (putL v ++ 34 :: l) from rfl, mustX_of]
  simp only [h2.1, h2.2]
  rw [show (34 :: l : List UInt8) = [34] ++ l from rfl, mustX_of]
  exact strictX_put v l
theorem attrX_of {p : Pair} (h : isTitleL p.1 = true) (l : List UInt8) : attrX (p.1 ++ ([61, 34] ++ (putL p.2 ++ 34 :: l))) = .ok (p, l) := by
  unfold attrX
  rw [show ([61, 34] ++ (putL p.2 ++ 34 :: l) : List UInt8) = 61 :: ([34] ++ (putL p.2 ++ 34 :: l)) from rfl, titleX_of h 61 _ (by decide)]
  simp only [dropWhile_not whiteX 61 _ (by decide)]
  rw [show (61 :: ([34] ++ (putL p.2 ++ 34 :: l)) : List UInt8) = [61] ++ (34 :: (putL p.2 ++ 34 :: l)) from rfl, mustX_of]
  simp only [dropWhile_not whiteX 34 _ (by decide), valueX_of]
theorem pairsP_cons (p : Pair) (a : List Pair) (l : List UInt8) : pairsP (p :: a) ++ l = 32 :: (p.1 ++ ([61, 34] ++ (putL p.2 ++ 34 :: (pairsP a ++ l)))) := by
  simp [pairsP, pairP]
theorem white_beg (c : UInt8) (h : begX c = true) : whiteX c = false := by
  unfold begX letterB smallB bigB at h
  unfold whiteX
  simp at h ⊢
  have e : ∀ k : UInt8, c = k → c.toNat = k.toNat := fun k h => by rw [h]
  refine ⟨⟨⟨?_, ?_⟩, ?_⟩, ?_⟩ <;> (intro hc; subst hc; revert h; decide)
theorem attrsX_of (a : List Pair) : ∀ (met : List Pair) (f : Nat) (c : UInt8) (l : List UInt8), whiteX c = false → chkAX a (met.map (·.1)) = 0 → a.length < f → attrsX f met (pairsP a ++ c :: l) = .ok (met ++ a, c :: l) := by
  induction a with
  | nil =>
    intro met f c l hc _ hf
    cases f with
    | zero => simp at hf
    | succ f => simp [attrsX, pairsP, headX, hc]
  | cons p a ih =>
    intro met f c l hc hk hf
    cases f with
    | zero => simp at hf
    | succ f =>
      rw [chkAX] at hk
      by_cases ht : isTitleL p.1 = false
      · simp [ht] at hk
      · rw [if_neg ht] at hk
        have ht : isTitleL p.1 = true := by simpa using ht
        by_cases hm : p.1 ∈ met.map (·.1)
        · simp [hm] at hk
        · rw [if_neg hm] at hk
          obtain ⟨_, b, r, he, hb⟩ := titleX_all ht
          rw [pairsP_cons, attrsX]
          have hd : (32 :: (p.1 ++ ([61, 34] ++ (putL p.2 ++ 34 :: (pairsP a ++ c :: l)))) : List UInt8).dropWhile whiteX = p.1 ++ ([61, 34] ++ (putL p.2 ++ 34 :: (pairsP a ++ c :: l))) := by
            rw [List.dropWhile_cons, if_pos (by decide), he, List.cons_append, dropWhile_not _ _ _ (white_beg b hb)]
          rw [hd]
          rw [if_pos (by rw [he]; simp [headX, hb]; decide), attrX_of ht]
          have hany : (met.any fun q => q.1 == p.1) = false := by
            rw [List.any_eq_false]
            intro q hq
            have : q.1 ≠ p.1 := fun h9 => hm (by rw [← h9]; exact List.mem_map_of_mem hq)
            simpa using this
          simp only [hany]
          have := ih (met ++ [p]) f c l hc (by simpa using hk) (by simpa using hf)
          simpa using this
theorem attr_len (a : List Pair) (l : List UInt8) : a.length ≤ (pairsP a ++ l).length := by
  induction a with
  | nil => simp
  | cons p a ih => rw [pairsP_cons]; simp at ih ⊢; omega
theorem tagX_of {n : List UInt8} {a : List Pair} (hn : isTitleL n = true) (ha : chkAX a [] = 0) (d : Nat) (hd : d ≤ 8) (l : List UInt8) :
    tagX d ([60] ++ (n ++ (pairsP a ++ ([47, 62] ++ l)))) = .ok ((n, a, true), l) ∧ tagX d ([60] ++ (n ++ (pairsP a ++ ([62] ++ l)))) = .ok ((n, a, false), l) := by
  have key : ∀ (c : UInt8) (r : List UInt8), whiteX c = false → inX c = false → titleX (n ++ (pairsP a ++ c :: r)) = .ok (n, pairsP a ++ c :: r) := by
    intro c r hc hi
    cases a with
    | nil => exact titleX_of hn c r hi
    | cons p a => rw [pairsP_cons]; exact titleX_of hn 32 _ (by decide)
  constructor
  · unfold tagX
    rw [mustX_of]
    simp only [show ([47, 62] ++ l : List UInt8) = 47 :: ([62] ++ l) from rfl]
    rw [key 47 _ (by decide) (by decide)]
    simp only [if_neg (show ¬ 8 < d by omega)]
    rw [attrsX_of a [] _ 47 _ (by decide) (by simpa using ha) (by have := attr_len a (47 :: ([62] ++ l)); omega)]
    simp
  · unfold tagX
    rw [mustX_of]
    simp only [show ([62] ++ l : List UInt8) = 62 :: l from rfl]
    rw [key 62 _ (by decide) (by decide)]
    simp only [if_neg (show ¬ 8 < d by omega)]
    rw [attrsX_of a [] _ 62 _ (by decide) (by simpa using ha) (by have := attr_len a (62 :: l); omega)]
    simp only [show ([47, 62] : List UInt8).isPrefixOf (62 :: l) = false from by simp [List.isPrefixOf]]
    rw [show (62 :: l : List UInt8) = [62] ++ l from rfl, mustX_of]
    simp
theorem endX_of {n : List UInt8} (hn : isTitleL n = true) (l : List UInt8) : endX n ([60, 47] ++ (n ++ ([62] ++ l))) = .ok l := by
  unfold endX
  rw [mustX_of]
  simp only [show ([62] ++ l : List UInt8) = 62 :: l from rfl]
  rw [titleX_of hn 62 l (by decide)]
  simp only [dropWhile_not whiteX 62 _ (by decide)]
  rw [show (62 :: l : List UInt8) = [62] ++ l from rfl, mustX_of]
  simp
theorem beg_ne {c k : UInt8} (h : begX c = true) (hk : begX k = false) : c ≠ k := fun e => by rw [e, hk] at h; simp at h
theorem pieceX_text {t : List UInt8} (ht : t ≠ []) (l : List UInt8) : pieceX (putL t ++ 60 :: l) = .said (.ok (t, 60 :: l)) ∧ [60, 47].isPrefixOf (putL t ++ 60 :: l) = false := by
  obtain ⟨c, r, hc⟩ : ∃ c r, putL t = c :: r := by
    cases h : putL t with
    | nil => exact absurd h (putL_ne ht)
    | cons c r => exact ⟨c, r, rfl⟩
  have hn := putL_no t c (by rw [hc]; simp)
  have h2 := takeWhile_all noLt (putL t) (fun x hx => by have := putL_no t x hx; simp [noLt, this]) 60 l (by decide)
  have hne : (60 == c) = false := by simpa using fun h => hn.1 h.symm
  constructor
  · have : pieceX (putL t ++ 60 :: l) = .said (strictX ((putL t ++ 60 :: l).takeWhile noLt) ((putL t ++ 60 :: l).dropWhile noLt)) := by
      rw [hc]
      simp [pieceX, remX, cdata, List.isPrefixOf, hne]
    rw [this, h2.1, h2.2, strictX_put]
  · rw [hc]; simp [List.isPrefixOf, hne]
theorem pieceX_kid {n : List UInt8} (hn : isTitleL n = true) (l : List UInt8) : pieceX ([60] ++ (n ++ l)) = .kid ∧ [60, 47].isPrefixOf ([60] ++ (n ++ l)) = false := by
  obtain ⟨_, c, r, rfl, hc⟩ := titleX_all hn
  have h1 : (33 == c) = false := by simpa using fun h => beg_ne hc (show begX 33 = false by decide) h.symm
  have h2 : (63 == c) = false := by simpa using fun h => beg_ne hc (show begX 63 = false by decide) h.symm
  have h3 : (47 == c) = false := by simpa using fun h => beg_ne hc (show begX 47 = false by decide) h.symm
  simp [pieceX, remX, cdata, List.isPrefixOf, h1, h2, h3]
theorem done_text (acc : Lst) (t : List UInt8) (h : acc.text = []) (ht : t ≠ []) : (acc.put (textN t)).done = acc.done ++ [textN t] := by
  simp [Lst.put, Lst.done, textN, Nd.name, Nd.text, h, ht]
theorem done_el (acc : Lst) (n : Nd) (h : n.name ≠ []) : (acc.put n).done = acc.done ++ [n] ∧ (acc.put n).text = [] := by
  simp [Lst.put, Lst.done, h]
mutual
theorem elementX_of : ∀ (n : Nd) (m d f : Nat) (l : List UInt8), RtX m false [n] → n.name ≠ [] → d + m = 9 → 2 * (printX n).length < f → elementX f d (printX n ++ l) = .ok (n, l)
  | .mk n a t k, m, d, f, l, h, hn, hd, hf => by
    simp only [Nd.name] at hn
    rw [RtX, if_neg hn] at h
    obtain ⟨rfl, ht, ha, hm, hk, _⟩ := h
    cases f with
    | zero => simp at hf
    | succ f =>
      have hp : printX (.mk n a [] k) ++ l = [60] ++ (n ++ (pairsP a ++ ((if k.isEmpty = true then [47, 62] else [62] ++ (printXs k ++ ([60, 47] ++ (n ++ [62])))) ++ l))) := by
        simp [printX, hn]
      rw [hp]
      cases hke : k.isEmpty with
      | true =>
        have : k = [] := by simpa using hke
        subst this
        simp only [if_true]
        rw [elementX, (tagX_of ht ha d (by omega) l).1]
      | false =>
        simp only [Bool.false_eq_true, if_false]
        have hlen : 2 * (printXs k).length + 4 ≤ f := by
          have : (printX (.mk n a [] k)).length = 1 + (n.length + ((pairsP a).length + (1 + ((printXs k).length + (2 + (n.length + 1)))))) := by
            simp [printX, hn, hke]
            omega
          rw [this] at hf
          omega
        rw [show ([62] ++ (printXs k ++ ([60, 47] ++ (n ++ [62])))) ++ l = [62] ++ (printXs k ++ ([60, 47] ++ (n ++ ([62] ++ l)))) from by simp, elementX, (tagX_of ht ha d (by omega) _).2]
        have := kidsX_of k (m - 1) d f false ⟨[], []⟩ (n ++ ([62] ++ l)) hk (by simp) (by omega) (by omega)
        rw [show ([60, 47] ++ (n ++ ([62] ++ l)) : List UInt8) = 60 :: 47 :: (n ++ ([62] ++ l)) from rfl] at *
        simp only [this]
        rw [show (60 :: 47 :: (n ++ ([62] ++ l)) : List UInt8) = [60, 47] ++ (n ++ ([62] ++ l)) from rfl, endX_of ht]
        simp [Lst.done]
theorem kidsX_of : ∀ (ks : List Nd) (m d f : Nat) (prev : Bool) (acc : Lst) (l : List UInt8), RtX m prev ks → (acc.text ≠ [] → prev = true) → d + m = 8 → 2 * (printXs ks).length + 3 ≤ f → kidsX f d acc (printXs ks ++ 60 :: 47 :: l) = .ok (acc.done ++ ks, 60 :: 47 :: l)
  | [], m, d, f, prev, acc, l, h, hp, hd, hf => by
    cases f with
    | zero => simp at hf
    | succ f => simp [kidsX, printXs]
  | .mk n a t k :: r, m, d, f, prev, acc, l, h, hp, hd, hf => by
    cases f with
    | zero => simp at hf
    | succ f =>
      have hpl : (printXs (.mk n a t k :: r)).length = (printX (.mk n a t k)).length + (printXs r).length := by simp [printXs]
      rw [hpl] at hf
      rw [printXs, List.append_assoc]
      by_cases hn : n = []
      · subst hn
        rw [RtX, if_pos rfl] at h
        obtain ⟨ht, rfl, rfl, rfl, hr⟩ := h
        have e1 : printX (.mk [] [] t []) = putL t := by simp [printX]
        have hacc : acc.text = [] := by
          by_cases h9 : acc.text = []
          · exact h9
          · exact absurd (hp h9) (by simp)
        have hpos : 1 ≤ (putL t).length := by
          have := putL_ne ht
          cases h9 : putL t with
          | nil => exact absurd h9 this
          | cons => simp
        rw [e1] at hf ⊢
        obtain ⟨l2, hl2⟩ : ∃ l2, printXs r ++ 60 :: 47 :: l = 60 :: l2 := by
          cases r with
          | nil => exact ⟨_, rfl⟩
          | cons q r =>
            obtain ⟨n', a', t', k'⟩ := q
            by_cases hn' : n' = []
            · rw [RtX, if_pos hn'] at hr; exact absurd hr.2.2.2.1 (by simp)
            · exact ⟨_, by simp [printXs, printX, hn']; rfl⟩
        rw [hl2]
        have hpc := pieceX_text ht l2
        rw [kidsX, hpc.2, hpc.1]
        simp only [Bool.false_eq_true, if_false]
        rw [← hl2, kidsX_of r m d f true (acc.put (textN t)) l hr (by simp) hd (by omega), done_text acc t hacc ht]
        simp [textN]
      · have h0 := h
        rw [RtX, if_neg hn] at h
        obtain ⟨rfl, ht, ha, hm, hk, hr⟩ := h
        have e1 : ∃ x, printX (.mk n a [] k) = [60] ++ (n ++ x) := ⟨_, by simp [printX, hn]; rfl⟩
        obtain ⟨x, hx⟩ := e1
        have hpc := pieceX_kid ht (x ++ (printXs r ++ 60 :: 47 :: l))
        have hpos : 1 ≤ (printX (.mk n a [] k)).length := by rw [hx]; simp
        have e2 : printX (.mk n a [] k) ++ (printXs r ++ 60 :: 47 :: l) = [60] ++ (n ++ (x ++ (printXs r ++ 60 :: 47 :: l))) := by rw [hx]; simp
        rw [kidsX]
        rw [e2, hpc.2, hpc.1, ← e2]
        simp only [Bool.false_eq_true, if_false]
        have h1 := elementX_of (.mk n a [] k) m (d + 1) f (printXs r ++ 60 :: 47 :: l) (by rw [RtX, if_neg hn]; exact ⟨rfl, ht, ha, hm, hk, by simp [RtX]⟩) hn (by omega) (by omega)
        rw [h1]
        have hd2 := done_el acc (.mk n a [] k) hn
        simp only
        rw [kidsX_of r m d f false _ l hr (by rw [hd2.2]; simp) hd (by omega), hd2.1]
        simp
end
theorem mustX_ok {m l r : List UInt8} (h : mustX m l = .ok r) : r.length + m.length = l.length := by
  unfold mustX at h
  split at h
  · rename_i hp
    injection h with h
    subst h
    have := (List.isPrefixOf_iff_prefix.1 hp).length_le
    simp; omega
  · injection h
theorem takeDrop_len (f : UInt8 → Bool) (l : List UInt8) : (l.takeWhile f).length + (l.dropWhile f).length = l.length := by
  rw [← List.length_append, List.takeWhile_append_dropWhile]
theorem drop_le (f : UInt8 → Bool) (l : List UInt8) : (l.dropWhile f).length ≤ l.length := by have := takeDrop_len f l; omega
theorem titleX_ok {l n r : List UInt8} (h : titleX l = .ok (n, r)) : isTitleL n = true ∧ 1 ≤ n.length ∧ r.length + n.length = l.length := by
  unfold titleX at h
  split at h
  · rename_i ht
    injection h with h
    injection h with h1 h2
    subst h1 h2
    have := takeDrop_len inX l
    refine ⟨ht, ?_, by omega⟩
    obtain ⟨_, c, r, h9, _⟩ := titleX_all ht
    rw [h9]; simp
  · injection h
theorem strictX_ok {raw r v r2 : List UInt8} (h : strictX raw r = .ok (v, r2)) : v = (takeL raw).1 ∧ r2 = r := by
  unfold strictX at h
  split at h
  · injection h with h
    injection h with h1 h2
    exact ⟨h1.symm, h2.symm⟩
  · injection h
theorem valueX_ok {l v r : List UInt8} (h : valueX l = .ok (v, r)) : r.length ≤ l.length := by
  unfold valueX at h
  split at h
  · injection h
  · rename_i l1 h1
    split at h
    · injection h
    · rename_i l2 h2
      have := (strictX_ok h).2
      subst this
      have a1 := mustX_ok h1
      have a2 := mustX_ok h2
      have a3 := drop_le (notQ (quoteX l)) l1
      omega
theorem attrX_ok {l r : List UInt8} {p : Pair} (h : attrX l = .ok (p, r)) : isTitleL p.1 = true ∧ r.length ≤ l.length := by
  unfold attrX at h
  split at h
  · injection h
  · rename_i n l1 h1
    split at h
    · injection h
    · rename_i l2 h2
      split at h
      · injection h
      · rename_i v l3 h3
        injection h with h
        injection h with h4 h5
        subst h4 h5
        have a1 := titleX_ok h1
        have a2 := mustX_ok h2
        have a3 := valueX_ok h3
        have a4 := drop_le whiteX l1
        have a5 := drop_le whiteX l2
        exact ⟨a1.1, by omega⟩
theorem chkAX_snoc (p : Pair) (l : List Pair) : ∀ met, chkAX l met = 0 → isTitleL p.1 = true → p.1 ∉ met ++ l.map (·.1) → chkAX (l ++ [p]) met = 0 := by
  induction l with
  | nil =>
    intro met _ ht hm
    simp [chkAX, ht] at hm ⊢
    exact hm
  | cons q l ih =>
    intro met h ht hm
    rw [chkAX] at h
    rw [List.cons_append, chkAX]
    split at h
    · simp at h
    · rename_i h1
      split at h
      · simp at h
      · rename_i h2
        rw [if_neg h1, if_neg h2]
        exact ih _ h ht (by simpa using hm)
theorem attrsX_ok : ∀ (f : Nat) (met : List Pair) (l : List UInt8) (a : List Pair) (r : List UInt8), chkAX met [] = 0 → attrsX f met l = .ok (a, r) → chkAX a [] = 0 ∧ r.length ≤ l.length
  | 0, met, l, a, r, hm, h => by
    rw [attrsX] at h
    injection h with h
    injection h with h1 h2
    subst h1 h2
    exact ⟨hm, Nat.le_refl _⟩
  | f + 1, met, l, a, r, hm, h => by
    rw [attrsX] at h
    have a0 := drop_le whiteX l
    split at h
    · split at h
      · injection h
      · rename_i p l2 h2
        have h3 := attrX_ok h2
        split at h
        · injection h
        · rename_i hd
          have := attrsX_ok f _ _ a r (chkAX_snoc p met [] hm h3.1 (by
            intro h9
            apply hd
            rw [List.nil_append] at h9
            obtain ⟨q, hq, he⟩ := List.mem_map.1 h9
            rw [List.any_eq_true]
            exact ⟨q, hq, by simpa using he⟩)) h
          exact ⟨this.1, by omega⟩
    · injection h with h
      injection h with h1 h2
      subst h1 h2
      exact ⟨hm, a0⟩
theorem tagX_ok {d : Nat} {l r n : List UInt8} {a : List Pair} {e : Bool} (h : tagX d l = .ok ((n, a, e), r)) : isTitleL n = true ∧ chkAX a [] = 0 ∧ d ≤ 8 ∧ r.length + 3 ≤ l.length := by
  unfold tagX at h
  split at h
  · injection h
  · rename_i l1 h1
    split at h
    · injection h
    · rename_i m l2 h2
      split at h
      · injection h
      · rename_i hd
        split at h
        · injection h
        · rename_i b l3 h3
          have a1 := mustX_ok h1
          have a2 := titleX_ok h2
          have a3 := attrsX_ok _ _ _ _ _ (by rfl) h3
          simp at a1
          split at h
          · rename_i hp
            injection h with h
            injection h with h4 h5
            injection h4 with h6 h7
            injection h7 with h8 h9
            subst h5 h6 h8
            have := (List.isPrefixOf_iff_prefix.1 hp).length_le
            simp at this
            exact ⟨a2.1, a3.1, by omega, by simp; omega⟩
          · split at h
            · injection h
            · rename_i l4 h4
              have a4 := mustX_ok h4
              simp at a4
              injection h with h
              injection h with h4 h5
              injection h4 with h6 h7
              injection h7 with h8 h9
              subst h5 h6 h8
              exact ⟨a2.1, a3.1, by omega, by omega⟩
theorem endX_ok {n l r : List UInt8} (h : endX n l = .ok r) : r.length ≤ l.length := by
  unfold endX at h
  split at h
  · injection h
  · rename_i l1 h1
    split at h
    · injection h
    · rename_i m l2 h2
      split at h
      · have a1 := mustX_ok h1
        have a2 := titleX_ok h2
        have a3 := mustX_ok h
        have a4 := drop_le whiteX l2
        omega
      · injection h
theorem toX_ok {m l t r : List UInt8} (h : toX m l = .ok (t, r)) : r.length + t.length + m.length = l.length := by
  unfold toX at h
  split at h
  · rename_i n hn
    have := endOf_len hn
    injection h with h
    injection h with h1 h2
    subst h1 h2
    simp
    omega
  · injection h
theorem remX_ok {l t r : List UInt8} (h : remX l = some (.ok (t, r))) : r.length + 1 ≤ l.length := by
  unfold remX at h
  split at h
  · rename_i hp
    injection h with h
    have a1 := toX_ok h
    have := (List.isPrefixOf_iff_prefix.1 hp).length_le
    simp at this a1
    omega
  · split at h
    · rename_i hp
      injection h with h
      have a1 := toX_ok h
      have := (List.isPrefixOf_iff_prefix.1 hp).length_le
      simp at this a1
      omega
    · simp at h
theorem pieceX_over {l r : List UInt8} (h : pieceX l = .over (.ok r)) : r.length + 1 ≤ l.length := by
  unfold pieceX at h
  split at h
  · simp at h
  · split at h
    · simp at h
    · rename_i r1 h1
      injection h with h
      injection h with h
      subst h
      exact remX_ok h1
    · split at h
      · simp at h
      · split at h <;> simp at h
theorem pieceX_said {l t r : List UInt8} (h : pieceX l = .said (.ok (t, r))) : r.length + 1 ≤ l.length := by
  unfold pieceX at h
  split at h
  · simp at h
  · rename_i c l0
    split at h
    · simp at h
    · simp at h
    · split at h
      · rename_i hp
        injection h with h
        have a1 := toX_ok h
        have := (List.isPrefixOf_iff_prefix.1 hp).length_le
        simp [cdata] at this a1
        simp only [List.length_cons]
        omega
      · split at h
        · simp at h
        · rename_i hk
          injection h with h
          have := (strictX_ok h).2
          subst this
          have hc : noLt c = true := by
            unfold noLt
            simp [List.isPrefixOf] at hk
            simpa using fun h => hk h.symm
          have := drop_le noLt l0
          rw [List.dropWhile_cons, if_pos hc]
          simp only [List.length_cons]
          omega
theorem sizeNs_app (a b : List Nd) : sizeNs (a ++ b) = sizeNs a + sizeNs b := by
  induction a with
  | nil => simp [sizeNs]
  | cons n a ih => cases n; simp [sizeNs, ih]; omega
theorem RtX_append (m : Nat) : ∀ (a b : List Nd) (p : Bool), RtX m p (a ++ b) ↔ RtX m p a ∧ RtX m (endTX p a) b
  | [], b, p => by simp [RtX, endTX]
  | .mk n at' t k :: a, b, p => by
    rw [List.cons_append, RtX, RtX, endTX]
    by_cases hn : n = []
    · subst hn
      simp only [if_true, List.isEmpty_nil]
      rw [RtX_append m a b true]
      simp [and_assoc]
    · have : n.isEmpty = false := by simpa using hn
      simp only [if_neg hn, this]
      rw [RtX_append m a b false]
      simp [and_assoc]
theorem endTX_append : ∀ (a b : List Nd) (p : Bool), endTX p (a ++ b) = endTX (endTX p a) b
  | [], b, p => rfl
  | .mk n _ _ _ :: a, b, p => by rw [List.cons_append, endTX, endTX, endTX_append a b]
/-- What has been put is right. -/
def GoodX (m : Nat) (s : Lst) : Prop := RtX m false s.all ∧ endTX false s.all = false
def Lst.count (s : Lst) : Nat := sizeNs s.all + if s.text = [] then 0 else 1
theorem good_done {m : Nat} {s : Lst} (h : GoodX m s) : RtX m false s.done ∧ sizeNs s.done = s.count := by
  unfold Lst.done Lst.count
  cases ht : s.text with
  | nil => simp; exact h.1
  | cons c r =>
    simp only [List.isEmpty_cons, Bool.false_eq_true, if_false]
    rw [RtX_append, h.2, sizeNs_app]
    simp [h.1, RtX, textN, sizeNs]
theorem good_put_text {m : Nat} {s : Lst} (h : GoodX m s) (t : List UInt8) : GoodX m (s.put (textN t)) ∧ (s.put (textN t)).count ≤ s.count + 1 := by
  simp only [Lst.put, textN, Nd.name, Nd.text, List.isEmpty_nil, if_true]
  refine ⟨h, ?_⟩
  unfold Lst.count
  simp only
  split <;> split <;> omega
theorem good_put_el {m : Nat} {s : Lst} (h : GoodX m s) (n : Nd) (hn : n.name ≠ []) (hr : RtX m false [n]) : GoodX m (s.put n) ∧ (s.put n).count = s.count + sizeNs [n] := by
  have hd := good_done h
  have he : n.name.isEmpty = false := by simpa using hn
  simp only [Lst.put, he, Bool.false_eq_true, if_false]
  obtain ⟨nm, a, t, k⟩ := n
  simp only [Nd.name] at hn he
  refine ⟨⟨?_, ?_⟩, ?_⟩
  · simp only
    rw [RtX_append]
    refine ⟨hd.1, ?_⟩
    rw [RtX, if_neg hn] at hr ⊢
    exact hr
  · simp only
    rw [endTX_append]
    simp [endTX, he]
  · unfold Lst.count
    simp only
    rw [sizeNs_app, hd.2]
    simp [Lst.count]
theorem right_all : ∀ f : Nat, (∀ (d : Nat) (l : List UInt8) (n : Nd) (r : List UInt8), elementX f d l = .ok (n, r) → n.name ≠ [] ∧ RtX (9 - d) false [n] ∧ sizeNs [n] + r.length ≤ l.length) ∧
    (∀ (d : Nat) (acc : Lst) (l : List UInt8) (ks : List Nd) (r : List UInt8), kidsX f d acc l = .ok (ks, r) → GoodX (8 - d) acc → RtX (8 - d) false ks ∧ sizeNs ks + r.length ≤ acc.count + l.length) := by
  intro f
  induction f with
  | zero =>
    constructor
    · intro d l n r h; rw [elementX] at h; injection h
    · intro d acc l ks r h; rw [kidsX] at h; injection h
  | succ f ih =>
    constructor
    · intro d l n r h
      rw [elementX] at h
      split at h
      · injection h
      · rename_i nm a r1 h1
        have h2 := tagX_ok h1
        injection h with h
        injection h with h3 h4
        subst h3 h4
        have hn : nm ≠ [] := by rintro rfl; have := h2.1; simp [isTitleL] at this
        refine ⟨hn, ?_, ?_⟩
        · rw [RtX, if_neg hn]
          exact ⟨rfl, h2.1, h2.2.1, by omega, by simp [RtX], by simp [RtX]⟩
        · simp [sizeNs]; omega
      · rename_i nm a r1 h1
        have h2 := tagX_ok h1
        split at h
        · injection h
        · rename_i ks r2 hk
          have h5 := ih.2 d ⟨[], []⟩ r1 ks r2 hk ⟨by simp [RtX], rfl⟩
          split at h
          · injection h
          · rename_i r3 h6
            have h7 := endX_ok h6
            injection h with h
            injection h with h3 h4
            subst h3 h4
            have hn : nm ≠ [] := by rintro rfl; have := h2.1; simp [isTitleL] at this
            refine ⟨hn, ?_, ?_⟩
            · rw [RtX, if_neg hn]
              refine ⟨rfl, h2.1, h2.2.1, by omega, ?_, by simp [RtX]⟩
              rw [show 9 - d - 1 = 8 - d from by omega]
              exact h5.1
            · have := h5.2
              simp [sizeNs, Lst.count] at this ⊢
              omega
    · intro d acc l ks r h hg
      rw [kidsX] at h
      split at h
      · injection h with h
        injection h with h3 h4
        subst h3 h4
        have := good_done hg
        exact ⟨this.1, by omega⟩
      · split at h
        · injection h
        · rename_i r1 h1
          have h2 := pieceX_over h1
          have h3 := ih.2 d acc r1 ks r h hg
          exact ⟨h3.1, by omega⟩
        · injection h
        · rename_i t r1 h1
          have h2 := pieceX_said h1
          have h4 := good_put_text hg t
          have h3 := ih.2 d _ r1 ks r h h4.1
          exact ⟨h3.1, by omega⟩
        · split at h
          · injection h
          · rename_i n r1 h1
            have h2 := ih.1 (d + 1) l n r1 h1
            have h4 := good_put_el hg n h2.1 (by rw [show 8 - d = 9 - (d + 1) from by omega]; exact h2.2.1)
            have h3 := ih.2 d _ r1 ks r h h4.1
            exact ⟨h3.1, by omega⟩
theorem miscX_ok : ∀ (f : Nat) (l r : List UInt8), miscX f l = .ok r → r.length ≤ l.length
  | 0, l, r, h => by rw [miscX] at h; injection h with h; subst h; exact Nat.le_refl _
  | f + 1, l, r, h => by
    rw [miscX] at h
    split at h
    · have := miscX_ok f _ _ h
      have := drop_le whiteX l
      omega
    · split at h
      · injection h with h; subst h; exact Nat.le_refl _
      · injection h
      · rename_i t r1 h1
        have := remX_ok h1
        have := miscX_ok f _ _ h
        omega
theorem docX_right {l : List UInt8} {n : Nd} (h : docX l = .ok n) : n.name ≠ [] ∧ RtX 8 false [n] ∧ sizeNs [n] ≤ l.length := by
  unfold docX at h
  split at h
  · injection h
  · rename_i l1 h1
    have a1 := miscX_ok _ _ _ h1
    split at h
    · injection h
    · rename_i m l2 h2
      have h3 := (right_all _).1 1 l1 m l2 h2
      split at h
      · injection h
      · injection h with h
        subst h
        exact ⟨h3.1, h3.2.1, by omega⟩
      · injection h
/-- WHAT IS PRINTED IS READ AS IT WAS. -/
theorem doc_print (n : Nd) (hn : n.name ≠ []) (h : RtX 8 false [n]) : docX (printX n) = .ok n := by
  obtain ⟨nm, a, t, k⟩ := n
  simp only [Nd.name] at hn
  have ht : isTitleL nm = true := by have h9 := h; rw [RtX, if_neg hn] at h9; exact h9.2.1
  obtain ⟨x, hx⟩ : ∃ x, printX (.mk nm a t k) = 60 :: (nm ++ x) := ⟨_, by simp only [printX, if_neg hn]; rfl⟩
  obtain ⟨_, c, r, hc, hb⟩ := titleX_all ht
  have h1 : (33 == c) = false := by simpa using fun h => beg_ne hb (show begX 33 = false by decide) h.symm
  have h2 : (63 == c) = false := by simpa using fun h => beg_ne hb (show begX 63 = false by decide) h.symm
  have hm : miscX ((printX (.mk nm a t k)).length + 1) (printX (.mk nm a t k)) = .ok (printX (.mk nm a t k)) := by
    rw [hx, hc, miscX]
    simp [headX, whiteX, remX, List.isPrefixOf, h1, h2]
  have he := elementX_of (.mk nm a t k) 8 1 (2 * (printX (.mk nm a t k)).length + 2) [] h hn rfl (by omega)
  rw [List.append_nil] at he
  unfold docX
  rw [hm]
  simp only [he]
  rfl
end Go.Proofs.YtlcljanibjdejaaGreat
