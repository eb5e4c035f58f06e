/- (*strings.Builder).String and WriteString at this program. WriteString, with what it leaves as it was: all but the builder and rows of bytes from B on. strings.IndexByte, LastIndexByte and Join, laid at this program. A scheme at the head of a text, and what stands up to one of some bytes. -/
import Derived.Shelf.Strings.Builder1
import Derived.Test.YtlcljanibjdejaaGreatPk09
import Derived.Shelf.Strings.OnBuilder
import Derived.Shelf.Small.Strs
import Derived.Shelf.Strings.LastIndex
import Derived.Test.YtlcljanibjdejaaGreatProg
import Derived.Test.YtlcljanibjdejaaGreatPk05
namespace Go.Proofs
open Go.Shelf
def Tryz.lays169_ren : Go.Shelf.Ren := ⟨fun | 169 => 98 | n => n, fun | 70 => 132 | 9 => 9 | 0 => 0 | 72 => 134 | 37 => 107 | 127 => 203 | 3 => 3 | 5 => 5 | n => n, fun | n => n⟩
theorem Tryz.lays169 : Go.Proofs.Lays.n169 Tryz.prog Tryz.lays169_ren := {
  mixed := by kernel_rfl
  f169 := Tryz.func98.trans (congrArg some (by kernel_rfl))
  t0 := Tryz.underlying0
  a0 := Tryz.isAgg0
  z0 := Tryz.sizeOf0
  v0 := Tryz.zeroValue0
  t3 := Tryz.underlying3
  a3 := Tryz.isAgg3
  z3 := Tryz.sizeOf3
  v3 := Tryz.zeroValue3
  t9 := Tryz.underlying9
  a9 := Tryz.isAgg9
  z9 := Tryz.sizeOf9
  v9 := Tryz.zeroValue9
  t37 := Tryz.underlying107
  a37 := Tryz.isAgg107
  z37 := Tryz.sizeOf107
  v37 := Tryz.zeroValue107
  t70 := Tryz.underlying132
  a70 := Tryz.isAgg132
  z70 := Tryz.sizeOf132
  v70 := Tryz.zeroValue132
  t72 := Tryz.underlying134
  a72 := Tryz.isAgg134
  z72 := Tryz.sizeOf134
  v72 := Tryz.zeroValue134
  t127 := Tryz.underlying203
  a127 := Tryz.isAgg203
  z127 := Tryz.sizeOf203
  v127 := Tryz.zeroValue203 }
theorem Tryz.Builder_Extra_169 : Builder.Extra Tryz.prog Tryz.lays169_ren := {
  sizeBuilder := by kernel_rfl
  liesBuilder := by kernel_rfl
  t5 := Tryz.underlying5
  a5 := Tryz.isAgg5
  z5 := Tryz.sizeOf5
  v5 := Tryz.zeroValue5
  infoByte := by kernel_rfl
  cellsByte := by kernel_rfl
  sizeByte := by kernel_rfl
  neB5 := by decide }
open Go.RowKit in
theorem Tryz.Builder_String (B b : Nat) (l : List UInt8) (w : World) (h : Lib.IsBuilder 134 5 B b (Lib.byteCells l) w) (h0 : l ≠ []) :
    Calls Tryz.prog 98 #[.pointer (some ⟨b, 0, none⟩)] w fun e w' => e = .returned (.string ⟨l.toArray⟩) ∧ Below B w w' := Any.Builder_String Tryz.lays169 Tryz.Builder_Extra_169 B b l w h h0
open Go.RowKit in
theorem Tryz.Builder_String_empty (B b : Nat) (w : World) (h : Lib.IsBuilder 134 5 B b [] w) (hBw : B ≤ w.heap.size) :
    Calls Tryz.prog 98 #[.pointer (some ⟨b, 0, none⟩)] w fun e w' => e = .returned (.string ⟨#[]⟩) ∧ Below B w w' := Any.Builder_String_empty Tryz.lays169 Tryz.Builder_Extra_169 B b w h hBw
open Go.RowKit in
theorem Tryz.Builder_String_any (B b : Nat) (l : List UInt8) (w : World) (h : Lib.IsBuilder 134 5 B b (Lib.byteCells l) w) (hBw : B ≤ w.heap.size) :
    Calls Tryz.prog 98 #[.pointer (some ⟨b, 0, none⟩)] w fun e w' => e = .returned (.string ⟨l.toArray⟩) ∧ Below B w w' := Any.Builder_String_any Tryz.lays169 Tryz.Builder_Extra_169 B b l w h hBw

namespace YtlcljanibjdejaaGreat
open Go.RowKit

theorem size57 : (Tryz.prog.info? 134).map (fun j => j.size) = some 2 := by kernel_rfl

set_option maxHeartbeats 1000000 in
set_option maxRecDepth 100000 in
theorem copyCheck_used (b : Nat) (w : World) (h0 : w.cell? ⟨b, 0, none⟩ = some (.pointer (some ⟨b, 0, none⟩))) :
    Calls Tryz.prog 214 #[.pointer (some ⟨b, 0, none⟩)] w fun e w' => e = .returned (.tuple #[]) ∧ w' = w := by
  obtain ⟨j, hj, _⟩ := Option.map_eq_some_iff.1 size57
  go_enter Tryz.func214, Tryz.ntmps214
  go_wp2
  rw [Lib.run_neq_ptr_same w _ Tryz.underlying132 hj]
  go_wp2
  go_end0
  exact ⟨rfl, rfl⟩

set_option maxHeartbeats 1000000 in
set_option maxRecDepth 100000 in
theorem copyCheck_fresh (b : Nat) (w : World) (h0 : w.cell? ⟨b, 0, none⟩ = some (.pointer none)) (hsh : w.shape? b = some (134, 2)) (hfz : w.frozen? ⟨b, 0, none⟩ = false) :
    Calls Tryz.prog 214 #[.pointer (some ⟨b, 0, none⟩)] w fun e w' => e = .returned (.tuple #[]) ∧ w' = w.setCell ⟨b, 0, none⟩ (.pointer (some ⟨b, 0, none⟩)) := by
  obtain ⟨j, hj, hjs⟩ := Option.map_eq_some_iff.1 size57
  have hlies : liesAt Tryz.prog Tryz.prog.depth 134 (2 / Tryz.prog.cellsOf 134) 0 134 1 = true := by kernel_rfl
  go_enter Tryz.func214, Tryz.ntmps214
  go_wp2
  rw [Lib.run_to_unsafe w ⟨b, 0, none⟩ Tryz.underlying132 Tryz.underlying257 hj (by rw [hjs]; decide) hsh (Nat.zero_lt_succ 1)]
  simp only [Result.andThen]
  rw [Oper.upon_value]
  go_wp2
  rw [run_callFunc_extern Tryz.func283 (by kernel_rfl) (by kernel_rfl) (by kernel_rfl) (e := Extern.AbiNoEscape.same) (by kernel_rfl)]
  rw [Lib.run_noEscape]
  simp only [Result.andThen]
  rw [Oper.upon_value]
  go_wp2
  rw [Lib.run_from_unsafe w ⟨b, 0, none⟩ Tryz.underlying257 Tryz.underlying132 hj hsh hlies]
  simp only [Result.andThen]
  rw [Oper.upon_value]
  go_wp2
  go_end0
  exact ⟨rfl, rfl⟩

theorem copyCheck_any (B b : Nat) (bs : List Value) (w : World) (h : Lib.IsBuilder 134 5 B b bs w) :
    Calls Tryz.prog 214 #[.pointer (some ⟨b, 0, none⟩)] w fun e w' => e = .returned (.tuple #[]) ∧ (Lib.BuilderAt 134 5 B b (.pointer (some ⟨b, 0, none⟩)) bs w' ∧ Below B w w') := by
  rcases h with h | h
  · refine (copyCheck_fresh b w h.cell0 h.shape h.frozen0).mono ?_
    rintro e w' ⟨rfl, rfl⟩
    exact ⟨rfl, h.used _, (Below.refl B w).setCell (p := ⟨b, 0, none⟩) h.1 _⟩
  · refine (copyCheck_used b w h.cell0).mono ?_
    rintro e w' ⟨rfl, rfl⟩
    exact ⟨rfl, h, Below.refl B _⟩

set_option maxHeartbeats 2000000 in
set_option maxRecDepth 100000 in
theorem write_str (B b : Nat) (bs : List Value) (s : ByteArray) (w : World) (h : Lib.IsBuilder 134 5 B b bs w) (hlen : bs.length + s.size ≤ 140737488355328) (hBw : B ≤ w.heap.size) :
    Calls Tryz.prog 144 #[.pointer (some ⟨b, 0, none⟩), .string s] w fun e w' => e = .returned (.tuple #[.int .i64 s.size, .nilIface]) ∧ (Lib.BuilderAt 134 5 B b (.pointer (some ⟨b, 0, none⟩)) (bs ++ Lib.strCells s) w' ∧ Below B w w') := by
  obtain ⟨i0, hi, hz0, hz1, hz2⟩ := info_parts Tryz.info5
  go_enter Tryz.func144, Tryz.ntmps144
  go_wp2_with fail
  refine (copyCheck_any B b bs _ h).mono ?_
  rintro e w1 ⟨rfl, h1, hb1⟩
  obtain ⟨hB, v, hbk, hown, hne⟩ := h1
  have c0 : w1.cell? ⟨b, 0, none⟩ = some (.pointer (some ⟨b, 0, none⟩)) := by rw [Lib.cell_of_heap hbk]; rfl
  have c1 : w1.cell? ⟨b, 1, none⟩ = some v := by rw [Lib.cell_of_heap hbk]; rfl
  go_wp2_with (at_builtin; refine Lib.wpList_append_own_string _ rfl _ _ 107 9 rfl B 5 i0 Tryz.underlying107 Tryz.underlying9 hi hz0 hz1 hz2 _ _ _ rfl hown s rfl ?c3 ?c4 ?c5 ?_)
  case c3 => unfold maxLen; omega
  case c4 => omega
  case c5 => have := hb1.size; omega
  intro v' w2 hown' hgrow _
  have hlt : b < w1.heap.size := lt_of_block hbk
  have hb2 : w2.heap[b]? = some (.cells #[.pointer (some ⟨b, 0, none⟩), v] 134 (0, 0)) := by
    rw [hgrow.block b hlt (fun e => hne e.symm)]
    exact hbk
  have d0 : w2.cell? ⟨b, 0, none⟩ = some (.pointer (some ⟨b, 0, none⟩)) := by rw [Lib.cell_of_heap hb2]; rfl
  have d1 : w2.cell? ⟨b, 1, none⟩ = some v := by rw [Lib.cell_of_heap hb2]; rfl
  have f1 : w2.frozen? ⟨b, 1, none⟩ = false := Lib.frozen_of_heap hb2 1
  obtain ⟨ao, cap, rfl⟩ := row_form hown'
  go_wp2
  go_ret2
  refine ⟨rfl, ?_, ?_⟩
  · exact Lib.BuilderAt.put (T := 134) (e := 5) hB hb2 (bs' := bs ++ Lib.strCells s) (by simpa [Lib.strCells_length] using hown') (by decide)
  · exact (hb1.grown hgrow (by have := hb1.size; omega) (fun k hk => (hown.lt k hk).1)).setCell (p := ⟨b, 1, none⟩) hB _

/-- A builder that holds bytes. -/
def IsBld (B b : Nat) (l : List UInt8) (w : World) : Prop := Lib.IsBuilder 134 5 B b (Lib.byteCells l) w

theorem write_any (B b : Nat) (l t : List UInt8) (w : World) (h : IsBld B b l w) (hlen : l.length + t.length ≤ 1000000000) (hBw : B ≤ w.heap.size) :
    Calls Tryz.prog 144 #[.pointer (some ⟨b, 0, none⟩), .string ⟨t.toArray⟩] w fun e w' => e = .returned (.tuple #[.int .i64 t.length, .nilIface]) ∧ IsBld B b (l ++ t) w' ∧ Below B w w' := by
  refine (write_str B b _ ⟨t.toArray⟩ w h (by rw [Lib.byteCells_length, str_size]; omega) hBw).mono ?_
  rintro e w' ⟨rfl, h1, h2⟩
  refine ⟨rfl, .inr ?_, h2⟩
  have e2 : Lib.byteCells (l ++ t) = Lib.byteCells l ++ Lib.strCells ⟨t.toArray⟩ := by simp [Lib.byteCells, Lib.strCells]
  rw [e2]
  exact h1
end YtlcljanibjdejaaGreat
end Go.Proofs

namespace Go.Proofs.YtlcljanibjdejaaGreat
open Go.RowKit Go.Maps

structure KeepsB (B b : Nat) (w w' : World) : Prop where
  os : w'.os = w.os
  tape : w'.tape = w.tape
  output : w'.output = w.output
  size : w.heap.size ≤ w'.heap.size
  block : ∀ k, k < w.heap.size → k ≠ b → (k < B ∨ ∀ cs f, w.heap[k]? ≠ some (.cells cs 5 f)) → w'.heap[k]? = w.heap[k]?

theorem KeepsB.refl (B b : Nat) (w : World) : KeepsB B b w w := ⟨rfl, rfl, rfl, Nat.le_refl _, fun _ _ _ _ => rfl⟩
theorem KeepsB.trans {B b : Nat} {x y z : World} (h : KeepsB B b x y) (k : KeepsB B b y z) : KeepsB B b x z :=
  ⟨k.os.trans h.os, k.tape.trans h.tape, k.output.trans h.output, Nat.le_trans h.size k.size, fun i hi hb hc =>
    (k.block i (Nat.lt_of_lt_of_le hi h.size) hb (by rw [h.block i hi hb hc]; exact hc)).trans (h.block i hi hb hc)⟩
theorem KeepsB.of {B b : Nat} {w w' : World} (h : Keeps [] w w') : KeepsB B b w w' := ⟨h.os, h.tape, h.output, h.size, fun k hk _ _ => h.block k hk List.not_mem_nil⟩
theorem KeepsB.nil {B b : Nat} {w0 w w' : World} (h0 : Keeps [] w0 w) (h : KeepsB B b w w') (hB : w0.heap.size ≤ B) (hb : B ≤ b) : Keeps [] w0 w' :=
  ⟨h.os.trans h0.os, h.tape.trans h0.tape, h.output.trans h0.output, Nat.le_trans h0.size h.size, fun k hk _ => (h.block k (Nat.lt_of_lt_of_le hk h0.size) (by omega) (.inl (by omega))).trans (h0.block k hk List.not_mem_nil)⟩

theorem KeepsB.tok {B b : Nat} {w w' : World} {g : Nat} {p : Tok × Value} (h : KeepsB B b w w') (ht : IsTok w g p) (hg : g ≠ b) : IsTok w' g p := by
  rw [IsTok, h.block g ht.lt hg (.inr (fun cs f e => by rw [show w.heap[g]? = _ from ht] at e; simp at e))]; exact ht
theorem KeepsB.pair {B b : Nat} {w w' : World} {g : Nat} {x y : ByteArray} (h : KeepsB B b w w') (ht : IsPair w g x y) (hg : g ≠ b) : IsPair w' g x y := by
  rw [IsPair, h.block g ht.lt hg (.inr (fun cs f e => by rw [show w.heap[g]? = _ from ht] at e; simp at e))]; exact ht

theorem KeepsB.set {B b : Nat} {w w' : World} (h : KeepsB B b w w') (j : Nat) (u : Value) : KeepsB B b w (w'.setCell ⟨b, j, none⟩ u) :=
  ⟨h.os, h.tape, h.output, Nat.le_trans h.size (by simp [World.setCell]), fun k hk hb hc => by rw [Below.heap_setCell _ _ _ _ hb]; exact h.block k hk hb hc⟩

theorem copyCheck_keeps (B b : Nat) (bs : List Value) (w : World) (h : Lib.IsBuilder 134 5 B b bs w) :
    Calls Tryz.prog 214 #[.pointer (some ⟨b, 0, none⟩)] w fun e w' => e = .returned (.tuple #[]) ∧ (Lib.BuilderAt 134 5 B b (.pointer (some ⟨b, 0, none⟩)) bs w' ∧ KeepsB B b w w') := by
  rcases h with h | h
  · refine (copyCheck_fresh b w h.cell0 h.shape h.frozen0).mono ?_
    rintro e w' ⟨rfl, rfl⟩
    exact ⟨rfl, h.used _, (KeepsB.refl B b w).set 0 _⟩
  · refine (copyCheck_used b w h.cell0).mono ?_
    rintro e w' ⟨rfl, rfl⟩
    exact ⟨rfl, h, KeepsB.refl _ _ _⟩

set_option maxHeartbeats 2000000 in
set_option maxRecDepth 100000 in
theorem write_str' (B b : Nat) (bs : List Value) (s : ByteArray) (w : World) (h : Lib.IsBuilder 134 5 B b bs w) (hlen : bs.length + s.size ≤ 140737488355328) (hBw : B ≤ w.heap.size) :
    Calls Tryz.prog 144 #[.pointer (some ⟨b, 0, none⟩), .string s] w fun e w' => e = .returned (.tuple #[.int .i64 s.size, .nilIface]) ∧ (Lib.BuilderAt 134 5 B b (.pointer (some ⟨b, 0, none⟩)) (bs ++ Lib.strCells s) w' ∧ KeepsB B b w w') := by
  obtain ⟨i0, hi, hz0, hz1, hz2⟩ := info_parts Tryz.info5
  go_enter Tryz.func144, Tryz.ntmps144
  go_wp2_with fail
  refine (copyCheck_keeps B b bs _ h).mono ?_
  rintro e w1 ⟨rfl, h1, hb1⟩
  obtain ⟨hB, v, hbk, hown, hne⟩ := h1
  have c0 : w1.cell? ⟨b, 0, none⟩ = some (.pointer (some ⟨b, 0, none⟩)) := by rw [Lib.cell_of_heap hbk]; rfl
  have c1 : w1.cell? ⟨b, 1, none⟩ = some v := by rw [Lib.cell_of_heap hbk]; rfl
  go_wp2_with (at_builtin; refine Lib.wpList_append_own_string _ rfl _ _ 107 9 rfl B 5 i0 Tryz.underlying107 Tryz.underlying9 hi hz0 hz1 hz2 _ _ _ rfl hown s rfl ?c3 ?c4 ?c5 ?_)
  case c3 => unfold maxLen; omega
  case c4 => omega
  case c5 => have := hb1.size; omega
  intro v' w2 hown' hgrow _
  have hlt : b < w1.heap.size := lt_of_block hbk
  have hb2 : w2.heap[b]? = some (.cells #[.pointer (some ⟨b, 0, none⟩), v] 134 (0, 0)) := by
    rw [hgrow.block b hlt (fun e => hne e.symm)]
    exact hbk
  have d0 : w2.cell? ⟨b, 0, none⟩ = some (.pointer (some ⟨b, 0, none⟩)) := by rw [Lib.cell_of_heap hb2]; rfl
  have d1 : w2.cell? ⟨b, 1, none⟩ = some v := by rw [Lib.cell_of_heap hb2]; rfl
  have f1 : w2.frozen? ⟨b, 1, none⟩ = false := Lib.frozen_of_heap hb2 1
  have hk2 : KeepsB B b w1 w2 := ⟨hgrow.os, hgrow.tape, hgrow.output, hgrow.size, fun k hk _ hc => hgrow.block k hk (fun e => by
    have hv := e.symm
    rcases hc with hc | hc
    · have := (hown.lt k hv).1; omega
    · rcases hown.2 with ⟨rfl, _⟩ | ⟨g, cap, cur, rfl, _, hg, _⟩
      · simp [Value.ownBlock] at hv
      · simp only [Value.ownBlock, Option.some.injEq] at hv
        rw [hv] at hg
        exact hc _ _ hg)⟩
  obtain ⟨ao, cap, rfl⟩ := row_form hown'
  go_wp2
  go_ret2
  refine ⟨rfl, ?_, (hb1.trans hk2).set 1 _⟩
  exact Lib.BuilderAt.put (T := 134) (e := 5) hB hb2 (bs' := bs ++ Lib.strCells s) (by simpa [Lib.strCells_length] using hown') (by decide)

theorem write_all (B b : Nat) (l t : List UInt8) (w : World) (h : IsBld B b l w) (hlen : l.length + t.length ≤ 1000000000) (hBw : B ≤ w.heap.size) :
    Calls Tryz.prog 144 #[.pointer (some ⟨b, 0, none⟩), .string ⟨t.toArray⟩] w fun e w' => e = .returned (.tuple #[.int .i64 t.length, .nilIface]) ∧ IsBld B b (l ++ t) w' ∧ KeepsB B b w w' := by
  refine (write_str' B b _ ⟨t.toArray⟩ w h (by rw [Lib.byteCells_length, str_size]; omega) hBw).mono ?_
  rintro e w' ⟨rfl, h1, h2⟩
  refine ⟨rfl, .inr ?_, h2⟩
  have e2 : Lib.byteCells (l ++ t) = Lib.byteCells l ++ Lib.strCells ⟨t.toArray⟩ := by simp [Lib.byteCells, Lib.strCells]
  rw [e2]
  exact h1
end Go.Proofs.YtlcljanibjdejaaGreat

namespace Go.Proofs
open Go.Shelf
def Tryz.lays156_ren : Go.Shelf.Ren := ⟨fun | 156 => 208 | 165 => 279 | 166 => 144 | 169 => 98 | 240 => 214 | 241 => 313 | 276 => 283 | 277 => 332 | n => n, fun | 31 => 62 | 9 => 9 | 3 => 3 | 4 => 4 | 0 => 0 | 20 => 20 | 72 => 134 | 76 => 175 | 70 => 132 | 37 => 107 | 75 => 174 | 127 => 203 | 164 => 257 | 5 => 5 | 80 => 111 | n => n, fun | n => n⟩
theorem Tryz.lays156 : Go.Proofs.Lays.n156 Tryz.prog Tryz.lays156_ren := {
  mixed := by kernel_rfl
  f156 := Tryz.func208.trans (congrArg some (by kernel_rfl))
  f165 := Tryz.func279.trans (congrArg some (by kernel_rfl))
  f166 := Tryz.func144.trans (congrArg some (by kernel_rfl))
  f169 := Tryz.func98.trans (congrArg some (by kernel_rfl))
  f240 := Tryz.func214.trans (congrArg some (by kernel_rfl))
  f241 := Tryz.func313.trans (congrArg some (by kernel_rfl))
  f276 := Tryz.func283.trans (congrArg some (by kernel_rfl))
  f277 := Tryz.func332.trans (congrArg some (by kernel_rfl))
  t0 := Tryz.underlying0
  a0 := Tryz.isAgg0
  z0 := Tryz.sizeOf0
  v0 := Tryz.zeroValue0
  t3 := Tryz.underlying3
  a3 := Tryz.isAgg3
  z3 := Tryz.sizeOf3
  v3 := Tryz.zeroValue3
  t4 := Tryz.underlying4
  a4 := Tryz.isAgg4
  z4 := Tryz.sizeOf4
  v4 := Tryz.zeroValue4
  t9 := Tryz.underlying9
  a9 := Tryz.isAgg9
  z9 := Tryz.sizeOf9
  v9 := Tryz.zeroValue9
  t20 := Tryz.underlying20
  a20 := Tryz.isAgg20
  z20 := Tryz.sizeOf20
  v20 := Tryz.zeroValue20
  t31 := Tryz.underlying62
  a31 := Tryz.isAgg62
  z31 := Tryz.sizeOf62
  v31 := Tryz.zeroValue62
  t37 := Tryz.underlying107
  a37 := Tryz.isAgg107
  z37 := Tryz.sizeOf107
  v37 := Tryz.zeroValue107
  t70 := Tryz.underlying132
  a70 := Tryz.isAgg132
  z70 := Tryz.sizeOf132
  v70 := Tryz.zeroValue132
  t72 := Tryz.underlying134
  a72 := Tryz.isAgg134
  z72 := Tryz.sizeOf134
  v72 := Tryz.zeroValue134
  t75 := Tryz.underlying174
  a75 := Tryz.isAgg174
  z75 := Tryz.sizeOf174
  v75 := Tryz.zeroValue174
  t76 := Tryz.underlying175
  a76 := Tryz.isAgg175
  z76 := Tryz.sizeOf175
  v76 := Tryz.zeroValue175
  t127 := Tryz.underlying203
  a127 := Tryz.isAgg203
  z127 := Tryz.sizeOf203
  v127 := Tryz.zeroValue203
  t164 := Tryz.underlying257
  a164 := Tryz.isAgg257
  z164 := Tryz.sizeOf257
  v164 := Tryz.zeroValue257 }
theorem Tryz.Builder_Extra_156 : Builder.Extra Tryz.prog Tryz.lays156_ren := {
  sizeBuilder := by kernel_rfl
  liesBuilder := by kernel_rfl
  t5 := Tryz.underlying5
  a5 := Tryz.isAgg5
  z5 := Tryz.sizeOf5
  v5 := Tryz.zeroValue5
  infoByte := by kernel_rfl
  cellsByte := by kernel_rfl
  sizeByte := by kernel_rfl
  neB5 := by decide }
open Go.RowKit in
/-- No element: the empty string; the world is as it was. (Whatever the slice's address and capacity: a nil slice too.) (LAID: no walk: one application.) -/
theorem Tryz.strings_Join_none (a : Option Addr) (c : Nat) (sep : ByteArray) (w : World) :
    Calls Tryz.prog 208 #[.slice a 0 c, .string sep] w fun e w' => e = .returned (.string ⟨#[]⟩) ∧ w' = w := Any.strings_Join_none Tryz.lays156 Tryz.Builder_Extra_156 a c sep w
open Go.RowKit in
/-- strings.Join: "Join concatenates the elements of its first argument to create a single string. The separator string sep is placed between elements in the resulting string.": HOWEVER MANY ELEMENTS. Below the heap's end the world is as it was. (LAID: no walk: one application.) -/
theorem Tryz.strings_Join (bk o c : Nat) (xs : List ByteArray) (sep : ByteArray) (w : World) (hcells : ∀ (j : Nat) x, xs[j]? = some x → w.cell? ⟨bk, o + j, none⟩ = some (.string x)) (hbk : bk < w.heap.size) (hN : xs.length ≤ 140737488355328) (hcap : xs.length ≤ c) (hlen : (Lib.join (xs.map (·.data.toList)) sep.data.toList).length ≤ 140737488355328) :
    Calls Tryz.prog 208 #[.slice (some ⟨bk, o, none⟩) xs.length c, .string sep] w fun e w' => e = .returned (.string ⟨(Lib.join (xs.map (·.data.toList)) sep.data.toList).toArray⟩) ∧ Below w.heap.size w w' := Any.strings_Join Tryz.lays156 Tryz.Builder_Extra_156 bk o c xs sep w hcells hbk hN hcap hlen
def Tryz.lays137_ren : Go.Shelf.Ren := ⟨fun | 137 => 287 | 217 => 315 | 266 => 334 | n => n, fun | 9 => 9 | 5 => 5 | 3 => 3 | n => n, fun | n => n⟩
theorem Tryz.lays137 : Go.Proofs.Lays.n137 Tryz.prog Tryz.lays137_ren := {
  mixed := by kernel_rfl
  f137 := Tryz.func287.trans (congrArg some (by kernel_rfl))
  f217 := Tryz.func315.trans (congrArg some (by kernel_rfl))
  f266 := Tryz.func334.trans (congrArg some (by kernel_rfl))
  t3 := Tryz.underlying3
  a3 := Tryz.isAgg3
  z3 := Tryz.sizeOf3
  v3 := Tryz.zeroValue3
  t5 := Tryz.underlying5
  a5 := Tryz.isAgg5
  z5 := Tryz.sizeOf5
  v5 := Tryz.zeroValue5
  t9 := Tryz.underlying9
  a9 := Tryz.isAgg9
  z9 := Tryz.sizeOf9
  v9 := Tryz.zeroValue9 }
open Go.RowKit in
/-- strings.IndexByte: "IndexByte returns the index of the first instance of c in s, or -1 if c is not present in s.": IT RETURNS 'Lib.indexByte s c'; the world is as it was. (LAID: no walk: one application.) -/
theorem Tryz.strings_IndexByte (s : ByteArray) (c : Int) (w : World) :
    Calls Tryz.prog 287 #[.string s, .int .u8 c] w fun e w' => e = .returned (.int .i64 (Lib.indexByte s.data.toList c.toNat.toUInt8)) ∧ w' = w := Any.strings_IndexByte Tryz.lays137 s c w
def Tryz.lays149_ren : Go.Shelf.Ren := ⟨fun | 149 => 290 | 222 => 317 | n => n, fun | 9 => 9 | 5 => 5 | 3 => 3 | 4 => 4 | n => n, fun | n => n⟩
theorem Tryz.lays149 : Go.Proofs.Lays.n149 Tryz.prog Tryz.lays149_ren := {
  mixed := by kernel_rfl
  f149 := Tryz.func290.trans (congrArg some (by kernel_rfl))
  f222 := Tryz.func317.trans (congrArg some (by kernel_rfl))
  t3 := Tryz.underlying3
  a3 := Tryz.isAgg3
  z3 := Tryz.sizeOf3
  v3 := Tryz.zeroValue3
  t4 := Tryz.underlying4
  a4 := Tryz.isAgg4
  z4 := Tryz.sizeOf4
  v4 := Tryz.zeroValue4
  t5 := Tryz.underlying5
  a5 := Tryz.isAgg5
  z5 := Tryz.sizeOf5
  v5 := Tryz.zeroValue5
  t9 := Tryz.underlying9
  a9 := Tryz.isAgg9
  z9 := Tryz.sizeOf9
  v9 := Tryz.zeroValue9 }
open Go.RowKit Go.Lib in
/-- strings.LastIndexByte: "LastIndexByte returns the index of the last instance of c in s, or -1 if c is not present in s." (LAID: no walk: one application.) -/
theorem Tryz.strings_LastIndexByte (s : ByteArray) (c : Int) (hs : s.size < 4611686018427387904) (w : World) :
    Calls Tryz.prog 290 #[.string s, .int .u8 c] w fun e w' => e = .returned (.int .i64 (Lib.lastIndexByte s c)) ∧ w' = w := Any.strings_LastIndexByte Tryz.lays149 s c hs w
end Go.Proofs

namespace Go.Proofs.YtlcljanibjdejaaGreat
open Go.RowKit

theorem enters224 : Enters 224 := enters_of Tryz.func224 (by kernel_rfl) (by kernel_rfl)
theorem enters284 : Enters 284 := enters_of Tryz.func284 (by kernel_rfl) (by kernel_rfl)
theorem enters286 : Enters 286 := enters_of Tryz.func286 (by kernel_rfl) (by kernel_rfl)
theorem enters215 : Enters 215 := enters_of Tryz.func215 (by kernel_rfl) (by kernel_rfl)

set_option maxHeartbeats 1000000 in
theorem schB_any (c : UInt8) (w : World) : Calls Tryz.prog 284 #[.int .u8 c.toNat] w fun e w' => e = .returned (.bool (schB c)) ∧ w' = w := by
  have hl := hide (fun w => letter_any c w)
  have hd := hide (fun w => dig_any c w)
  have e1 : (c == 43) = ((c.toNat : Int) == 43) := beq_at rfl
  have e2 : (c == 45) = ((c.toNat : Int) == 45) := beq_at rfl
  have e3 : (c == 46) = ((c.toNat : Int) == 46) := beq_at rfl
  unfold schB
  rw [e1, e2, e3]
  clear e1 e2 e3
  generalize letterB c = a at *
  generalize digB c = b at *
  generalize c.toNat = n at *
  cases a <;> cases b <;> cases h1 : ((n : Int) == 43) <;> cases h2 : ((n : Int) == 45) <;> cases h3 : ((n : Int) == 46)
  all_goals
    go_enter Tryz.func284, Tryz.ntmps284
    go_wp2_with (first | (go_at_call 224; refine (hl.out _).mono ?_; rintro e w' ⟨rfl, rfl⟩) | (go_at_call 285; refine (hd.out _).mono ?_; rintro e w' ⟨rfl, rfl⟩))
    go_ret
    exact ⟨rfl, rfl⟩

theorem schemeL_none_end {l : List UInt8} (h : l.length ≤ (l.takeWhile schB).length) : schemeL l = none := by
  unfold schemeL
  rw [if_neg]
  rintro ⟨_, _, h3⟩
  rw [List.drop_eq_nil_of_le h] at h3
  simp at h3

set_option maxRecDepth 4000 in
set_option maxHeartbeats 1000000 in
theorem scheme_any (b : Nat) (s : ByteArray) (w : World) (hs : s.size ≤ 3000) (hT : IsText w b s 0) :
    Calls Tryz.prog 216 #[.pointer (some ⟨b, 0, none⟩)] w fun e w' =>
      ((∃ n, schemeL s.data.toList = some n ∧ e = .returned (.string ⟨n.toArray⟩) ∧ IsText w' b s (n.length + 1)) ∨ (schemeL s.data.toList = none ∧ e = .panicked gave ∧ ∃ j, IsText w' b s j)) ∧ Keeps [b] w w' := by
  have hp := hide (pass_of 284 schB enters284 schB_any b s 0 w hs hT (Nat.zero_le _))
  rw [List.drop_zero, Nat.zero_add] at hp
  have hle := takeWhile_le schB s 0 (Nat.zero_le _)
  rw [List.drop_zero, Nat.zero_add] at hle
  obtain ⟨n, hn⟩ : ∃ n, s.data.toList.takeWhile schB = n := ⟨_, rfl⟩
  have hend : Hid (s.size ≤ n.length → schemeL s.data.toList = none) := fun h => schemeL_none_end (by rw [hn, len_size]; exact h)
  have hget : Hid (∀ h : n.length < s.size, schemeL s.data.toList = if n ≠ [] ∧ letterB (n.getD 0 0) = true ∧ byteAt s n.length = 58 then some n else none) := by
    intro h
    unfold schemeL
    rw [hn, List.head?_drop, List.getElem?_eq_getElem (by rw [len_size]; exact h), byteAt_eq s _ h]
    have : s.data.toList[n.length]'(by rw [len_size]; exact h) = s[n.length] := rfl
    rw [this]
    simp
  rw [hn] at hp hle
  clear hn
  by_cases hlt : n.length < s.size
  · have hg := hide (hget.out hlt)
    clear hend hget
    have hl0 := hide (fun w => letter_any (n.getD 0 0) w)
    have hbb : (byteAt s n.length = 58) ↔ (((byteAt s n.length).toNat : Int) != 58) = false := by
      rw [show ((58 : Int)) = (((58 : UInt8).toNat : Nat) : Int) from rfl, byte_bne]
      simp
    cases hc : (((byteAt s n.length).toNat : Int) != 58)
    · cases n with
      | nil =>
        have hnone : Hid (schemeL s.data.toList = none) := hg.out.trans (if_neg (by simp))
        clear hg hbb
        have h1 := hide (fun (w : World) hT => one_yes b s 0 w hs hT hlt)
        simp only [List.length_nil] at hc
        go_enter Tryz.func216, Tryz.ntmps216
        go_wp2_with fail
        refine hp.out.mono ?_
        rintro e w1 ⟨rfl, hT1, hk1⟩
        go_wp2_with fail
        refine (h1.out _ hT1).mono ?_
        rintro e w2 ⟨rfl, hT2, hk2⟩
        go_wp2_with fail
        refine (giveUp_any _).mono ?_
        rintro e w3 ⟨rfl, rfl⟩
        go_wp2_with fail
        exact ⟨rfl, .inr ⟨hnone.out, rfl, _, hT2⟩, hk1.trans hk2⟩
      | cons d m =>
        have e0 : (d :: m).getD 0 0 = d := rfl
        rw [e0] at hl0 hg
        have hsz : (⟨(d :: m).toArray⟩ : ByteArray).size = m.length + 1 := rfl
        have hix : (⟨(d :: m).toArray⟩ : ByteArray)[0]'(by rw [hsz]; omega) = d := rfl
        have hem : ((⟨(d :: m).toArray⟩ : ByteArray).toList.isEmpty) = false := by rw [ByteArray.toList_eq]; rfl
        have hlz : Hid (letterB d = false → schemeL s.data.toList = none) := fun h => hg.out.trans (if_neg (by simp [h]))
        have hly : Hid (letterB d = true → schemeL s.data.toList = some (d :: m)) := fun h => hg.out.trans (if_pos ⟨by simp, h, hbb.2 hc⟩)
        clear hg hbb
        have h1 := hide (fun (w : World) hT => one_yes b s (d :: m).length w hs hT hlt)
        generalize letterB d = a at *
        generalize hlen : (d :: m).length = len at *
        generalize hstr : (⟨(d :: m).toArray⟩ : ByteArray) = str at *
        have HLEN := hide hlen
        have HSTR := hide hstr
        clear hlen hstr
        cases a
        · go_enter Tryz.func216, Tryz.ntmps216
          go_wp2_with fail
          refine hp.out.mono ?_
          rintro e w1 ⟨rfl, hT1, hk1⟩
          go_wp2_with fail
          refine (h1.out _ hT1).mono ?_
          rintro e w2 ⟨rfl, hT2, hk2⟩
          go_wp2_with fail
          refine (hl0.out _).mono ?_
          rintro e w3 ⟨rfl, rfl⟩
          go_wp2_with fail
          refine (giveUp_any _).mono ?_
          rintro e w4 ⟨rfl, rfl⟩
          go_wp2_with fail
          exact ⟨rfl, .inr ⟨hlz.out trivial, rfl, _, hT2⟩, hk1.trans hk2⟩
        · go_enter Tryz.func216, Tryz.ntmps216
          go_wp2_with fail
          refine hp.out.mono ?_
          rintro e w1 ⟨rfl, hT1, hk1⟩
          go_wp2_with fail
          refine (h1.out _ hT1).mono ?_
          rintro e w2 ⟨rfl, hT2, hk2⟩
          go_wp2_with fail
          refine (hl0.out _).mono ?_
          rintro e w3 ⟨rfl, rfl⟩
          go_wp2_with fail
          go_ret
          exact ⟨.inl ⟨_, hly.out trivial, by rw [← HSTR.out]; simp, by rw [HLEN.out]; exact hT2⟩, hk1.trans hk2⟩
    · have hnone : Hid (schemeL s.data.toList = none) := hg.out.trans (if_neg (fun h => by rw [hbb.1 h.2.2] at hc; simp at hc))
      clear hg hbb
      have h1 := hide (fun (w : World) hT => one_yes b s n.length w hs hT hlt)
      generalize n.length = len at *
      go_enter Tryz.func216, Tryz.ntmps216
      go_wp2_with fail
      refine hp.out.mono ?_
      rintro e w1 ⟨rfl, hT1, hk1⟩
      go_wp2_with fail
      refine (h1.out _ hT1).mono ?_
      rintro e w2 ⟨rfl, hT2, hk2⟩
      go_wp2_with fail
      refine (giveUp_any _).mono ?_
      rintro e w3 ⟨rfl, rfl⟩
      go_wp2_with fail
      exact ⟨rfl, .inr ⟨hnone.out, rfl, _, hT2⟩, hk1.trans hk2⟩
  · have hnone := hide (hend.out (by omega))
    clear hend hget
    have h1 := hide (fun (w : World) hT => one_no b s n.length w hT (by omega))
    generalize n.length = len at *
    go_enter Tryz.func216, Tryz.ntmps216
    go_wp2_with fail
    refine hp.out.mono ?_
    rintro e w1 ⟨rfl, hT1, hk1⟩
    go_wp2_with fail
    refine (h1.out _ hT1).mono ?_
    rintro e w2 ⟨rfl, m, rfl⟩
    go_wp2_with fail
    exact ⟨rfl, .inr ⟨hnone.out, rfl, _, hT1⟩, hk1.drewN _⟩

/-- A cell that holds a text. -/
def IsStr (w : World) (p : Nat) (x : ByteArray) : Prop := w.heap[p]? = some (.cells #[.string x] 9 (0, 0))
theorem IsStr.lt {w : World} {p : Nat} {x : ByteArray} (h : IsStr w p x) : p < w.heap.size := lt_of_block h
theorem IsStr.keeps {S : List Nat} {w w' : World} {p : Nat} {x : ByteArray} (h : IsStr w p x) (hk : Keeps S w w') (hp : p ∉ S) : IsStr w' p x := by
  rw [IsStr, hk.block p h.lt hp]; exact h
theorem IsStr.cell {w : World} {p : Nat} {x : ByteArray} (h : IsStr w p x) : w.cell? ⟨p, 0, none⟩ = some (.string x) := cell_of_one h

theorem byte_back (c : UInt8) : ((c.toNat : Int).toNat.toUInt8) = c := by simp

set_option maxHeartbeats 400000 in
theorem inEnds_any (p : Nat) (ends : ByteArray) (c : UInt8) (w : World) (h : IsStr w p ends) :
    Calls Tryz.prog 286 #[.int .u8 c.toNat, .pointer (some ⟨p, 0, none⟩)] w fun e w' => e = .returned (.bool (decide (Lib.indexByte ends.data.toList c < 0))) ∧ w' = w := by
  have c0 := h.cell
  have hi := hide (fun w => Tryz.strings_IndexByte ends (c.toNat : Int) w)
  rw [byte_back] at hi
  generalize Lib.indexByte ends.data.toList c = r at *
  go_enter Tryz.func286, Tryz.ntmps286
  go_wp2_with (go_at_call 287; refine (hi.out _).mono ?_; rintro e w' ⟨rfl, rfl⟩)
  go_ret
  exact ⟨by simp, rfl⟩

set_option maxHeartbeats 400000 in
theorem passUpTo_any (b : Nat) (s : ByteArray) (k : Nat) (ends : ByteArray) (f : UInt8 → Bool) (hf : ∀ c, decide (Lib.indexByte ends.data.toList c < 0) = f c) (w : World) (hs : s.size ≤ 3000) (hT : IsText w b s k) (hk : k ≤ s.size) :
    Calls Tryz.prog 217 #[.pointer (some ⟨b, 0, none⟩), .string ends] w fun e w' =>
      e = .returned (.string ⟨((s.data.toList.drop k).takeWhile f).toArray⟩) ∧ IsText w' b s (k + ((s.data.toList.drop k).takeWhile f).length) ∧ Keeps [b] w w' := by
  have hka : Keeps [] w (w.alloc (.cells #[.string ends] 9)) := (Keeps.refl [] w).alloc _
  have hS : IsStr (w.alloc (.cells #[.string ends] 9)) w.heap.size ends := heap_alloc_new _ _
  have hmf : ∀ (fn : Fn) (first cap : Array Value) (w : World), (Instr.makeFunc fn first cap).run Tryz.prog w = .ok (.func fn first cap) w := fun _ _ _ _ => rfl
  have hp := hide (pass_any 286 #[.pointer (some ⟨w.heap.size, 0, none⟩)] f b s k (w.alloc (.cells #[.string ends] 9)) hs (hT.keeps hka (by simp)) hk enters286 fun c w1 hk1 =>
    (inEnds_any w.heap.size ends c w1 (hS.keeps hk1 (by have := hT.lt; simp; omega))).mono fun e w' ⟨he, hw⟩ => ⟨by rw [he, hf], 0, hw⟩)
  rw [pass_str] at hp
  clear hS hf
  go_enter Tryz.func217, Tryz.ntmps217
  go_wp2_with fail
  refine hp.out.mono ?_
  rintro e w1 ⟨rfl, hT1, hk1⟩
  go_wp2_with fail
  go_ret
  exact ⟨rfl, hT1, (hka.mono (T := [b]) (by simp)).trans hk1⟩

theorem ends1 : ∀ c : UInt8, decide (Lib.indexByte (⟨#[47, 63, 35]⟩ : ByteArray).data.toList c < 0) = authB c := all_bytes (by decide +kernel)
theorem ends2 : ∀ c : UInt8, decide (Lib.indexByte (⟨#[63, 35]⟩ : ByteArray).data.toList c < 0) = pathB c := all_bytes (by decide +kernel)
theorem ends3 : ∀ c : UInt8, decide (Lib.indexByte (⟨#[35]⟩ : ByteArray).data.toList c < 0) = queryB c := all_bytes (by decide +kernel)

/-- A link in memory. -/
def urlCells (u : UrlT) : Array Value := #[.string ⟨u.scheme.toArray⟩, .string ⟨u.authority.toArray⟩, .string ⟨u.path.toArray⟩, .string ⟨u.query.toArray⟩, .string ⟨u.fragment.toArray⟩, .bool u.hs, .bool u.ha, .bool u.hq, .bool u.hf]
def urlV (u : UrlT) : Value := .agg (urlCells u)
def IsUrl (w : World) (q : Nat) (u : UrlT) : Prop := w.heap[q]? = some (.cells #[.string ⟨u.scheme.toArray⟩, .string ⟨u.authority.toArray⟩, .string ⟨u.path.toArray⟩, .string ⟨u.query.toArray⟩, .string ⟨u.fragment.toArray⟩, .bool u.hs, .bool u.ha, .bool u.hq, .bool u.hf] 99 (0, 0))
theorem IsUrl.lt {w : World} {q : Nat} {u : UrlT} (h : IsUrl w q u) : q < w.heap.size := lt_of_block h
theorem IsUrl.keeps {S : List Nat} {w w' : World} {q : Nat} {u : UrlT} (h : IsUrl w q u) (hk : Keeps S w w') (hq : q ∉ S) : IsUrl w' q u := by
  rw [IsUrl, hk.block q h.lt hq]; exact h
theorem IsUrl.free {w : World} {q : Nat} {u : UrlT} (h : IsUrl w q u) (j : Nat) : w.frozen? ⟨q, j, none⟩ = false := by
  simp [World.frozen?, IsUrl] at h ⊢; simp [h]
theorem IsUrl.cell {w : World} {q : Nat} {u : UrlT} (h : IsUrl w q u) (j : Nat) : w.cell? ⟨q, j, none⟩ = (urlCells u)[j]? := by
  simp [World.cell?, IsUrl, urlCells] at h ⊢; simp [h]
theorem IsUrl.set0 {w : World} {q : Nat} {u : UrlT} (h : IsUrl w q u) (x : List UInt8) : IsUrl (w.setCell ⟨q, 0, none⟩ (.string ⟨x.toArray⟩)) q { u with scheme := x } := by
  simp [World.setCell, IsUrl, Array.getElem?_modify] at h ⊢; simp [h]
theorem IsUrl.set1 {w : World} {q : Nat} {u : UrlT} (h : IsUrl w q u) (x : List UInt8) : IsUrl (w.setCell ⟨q, 1, none⟩ (.string ⟨x.toArray⟩)) q { u with authority := x } := by
  simp [World.setCell, IsUrl, Array.getElem?_modify] at h ⊢; simp [h]
theorem IsUrl.set2 {w : World} {q : Nat} {u : UrlT} (h : IsUrl w q u) (x : List UInt8) : IsUrl (w.setCell ⟨q, 2, none⟩ (.string ⟨x.toArray⟩)) q { u with path := x } := by
  simp [World.setCell, IsUrl, Array.getElem?_modify] at h ⊢; simp [h]
theorem IsUrl.set3 {w : World} {q : Nat} {u : UrlT} (h : IsUrl w q u) (x : List UInt8) : IsUrl (w.setCell ⟨q, 3, none⟩ (.string ⟨x.toArray⟩)) q { u with query := x } := by
  simp [World.setCell, IsUrl, Array.getElem?_modify] at h ⊢; simp [h]
theorem IsUrl.set4 {w : World} {q : Nat} {u : UrlT} (h : IsUrl w q u) (x : List UInt8) : IsUrl (w.setCell ⟨q, 4, none⟩ (.string ⟨x.toArray⟩)) q { u with fragment := x } := by
  simp [World.setCell, IsUrl, Array.getElem?_modify] at h ⊢; simp [h]
theorem IsUrl.set5 {w : World} {q : Nat} {u : UrlT} (h : IsUrl w q u) (x : Bool) : IsUrl (w.setCell ⟨q, 5, none⟩ (.bool x)) q { u with hs := x } := by
  simp [World.setCell, IsUrl, Array.getElem?_modify] at h ⊢; simp [h]
theorem IsUrl.set6 {w : World} {q : Nat} {u : UrlT} (h : IsUrl w q u) (x : Bool) : IsUrl (w.setCell ⟨q, 6, none⟩ (.bool x)) q { u with ha := x } := by
  simp [World.setCell, IsUrl, Array.getElem?_modify] at h ⊢; simp [h]
theorem IsUrl.set7 {w : World} {q : Nat} {u : UrlT} (h : IsUrl w q u) (x : Bool) : IsUrl (w.setCell ⟨q, 7, none⟩ (.bool x)) q { u with hq := x } := by
  simp [World.setCell, IsUrl, Array.getElem?_modify] at h ⊢; simp [h]
theorem IsUrl.set8 {w : World} {q : Nat} {u : UrlT} (h : IsUrl w q u) (x : Bool) : IsUrl (w.setCell ⟨q, 8, none⟩ (.bool x)) q { u with hf := x } := by
  simp [World.setCell, IsUrl, Array.getElem?_modify] at h ⊢; simp [h]

/-- A cell that holds the text that is read. -/
def IsPtr (w : World) (p b : Nat) : Prop := w.heap[p]? = some (.cells #[.pointer (some ⟨b, 0, none⟩)] 105 (0, 0))
theorem IsPtr.lt {w : World} {p b : Nat} (h : IsPtr w p b) : p < w.heap.size := lt_of_block h
theorem IsPtr.keeps {S : List Nat} {w w' : World} {p b : Nat} (h : IsPtr w p b) (hk : Keeps S w w') (hp : p ∉ S) : IsPtr w' p b := by
  rw [IsPtr, hk.block p h.lt hp]; exact h
theorem IsPtr.cell {w : World} {p b : Nat} (h : IsPtr w p b) : w.cell? ⟨p, 0, none⟩ = some (.pointer (some ⟨b, 0, none⟩)) := cell_of_one h

set_option maxHeartbeats 400000 in
/-- What Split tries: the scheme. -/
theorem tryScheme_any (p q b : Nat) (u : UrlT) (s : ByteArray) (w : World) (hs : s.size ≤ 3000) (hP : IsPtr w p b) (hU : IsUrl w q u) (hT : IsText w b s 0) (hqb : q ≠ b) :
    Calls Tryz.prog 215 #[.pointer (some ⟨p, 0, none⟩), .pointer (some ⟨q, 0, none⟩)] w fun e w' =>
      (e = .returned (.tuple #[]) ∧ (∃ n, schemeL s.data.toList = some n ∧ IsText w' b s (n.length + 1) ∧ IsUrl w' q { u with scheme := n }) ∨
        e = .panicked gave ∧ (schemeL s.data.toList = none ∧ IsUrl w' q u) ∧ ∃ j, IsText w' b s j) ∧ Keeps [b, q] w w' := by
  have c0 := hP.cell
  have hsc := hide (fun (w : World) hT => scheme_any b s w hs hT)
  go_enter Tryz.func215, Tryz.ntmps215
  go_wp2_with fail
  refine (hsc.out _ hT).mono ?_
  rintro e w1 ⟨⟨n, hn, rfl, hT1⟩ | ⟨hn, rfl, j, hT1⟩, hk1⟩
  · have hU1 := hU.keeps hk1 (by simpa using hqb)
    have f0 := hU1.free 0
    have d0 : w1.cell? ⟨q, 0, none⟩ = some (.string ⟨u.scheme.toArray⟩) := hU1.cell 0
    go_wp2_with fail
    go_end0
    refine ⟨.inl ⟨rfl, n, hn, ?_, hU1.set0 n⟩, ?_⟩
    · exact hT1.keeps (((Keeps.refl [q] w1).setCell (p := ⟨q, 0, none⟩) (by simp) _)) (by simpa using hqb.symm)
    · exact (hk1.mono (T := [b, q]) (by simp)).setCell (by simp) _
  · have hU1 := hU.keeps hk1 (by simpa using hqb)
    go_wp2_with fail
    exact ⟨rfl, .inr ⟨rfl, ⟨hn, hU1⟩, j, hT1⟩, hk1.mono (by simp)⟩
end Go.Proofs.YtlcljanibjdejaaGreat
