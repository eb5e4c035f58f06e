/- What a call leaves as it was: 'Keeps', and what a text that is read looks like in memory: 'IsText'. -/
import Derived.Test.YtngojdajamgabadDoorRows
import Derived.WalkKit
import Derived.WalkSpells
import Derived.WalkLawsBesides
import Derived.Defers
import Derived.Recover
import Derived.Deep.QuietTactic
import Derived.BigQuiet
import Derived.Lib.AppendStr
import Derived.Laws.BytesString
namespace Go.Proofs.YtngojdajamgabadDoor
open Go.RowKit

/-- A fact is kept from the walk. -/
theorem hide {p : Prop} (h : p) : Hid p := h

/-- Every block that was there, but for those listed, is as it was; the streams are as they were. -/
structure Keeps (S : List Nat) (w w' : World) : Prop where
  os : w'.os = w.os
  tape : w'.tape = w.tape
  output : w'.output = w.output
  size : w.heap.size ≤ w'.heap.size
  block : ∀ k, k < w.heap.size → k ∉ S → w'.heap[k]? = w.heap[k]?

theorem Keeps.refl (S : List Nat) (w : World) : Keeps S w w := ⟨rfl, rfl, rfl, Nat.le_refl _, fun _ _ _ => rfl⟩

theorem Keeps.trans {S : List Nat} {a b c : World} (h : Keeps S a b) (k : Keeps S b c) : Keeps S a c :=
  ⟨k.os.trans h.os, k.tape.trans h.tape, k.output.trans h.output, Nat.le_trans h.size k.size, fun i hi hS => (k.block i (Nat.lt_of_lt_of_le hi h.size) hS).trans (h.block i hi hS)⟩

/-- More may be listed; blocks that were not there need not be. -/
theorem Keeps.mono {S T : List Nat} {w w' : World} (h : Keeps S w w') (hS : ∀ k, k ∈ S → k < w.heap.size → k ∈ T) : Keeps T w w' :=
  ⟨h.os, h.tape, h.output, h.size, fun k hk hT => h.block k hk fun hs => hT (hS k hs hk)⟩

theorem Keeps.drewN {S : List Nat} {a w : World} (h : Keeps S a w) (n : Nat) : Keeps S a (w.drewN n) := ⟨h.os, h.tape, h.output, h.size, h.block⟩
theorem Keeps.drew {S : List Nat} {a w : World} (h : Keeps S a w) : Keeps S a w.drew := ⟨h.os, h.tape, h.output, h.size, h.block⟩

theorem Keeps.alloc {S : List Nat} {a w : World} (h : Keeps S a w) (o : Obj) : Keeps S a (w.alloc o) :=
  h.trans ⟨rfl, rfl, rfl, by simp, fun k hk _ => Below.heap_alloc _ _ _ hk⟩

theorem Keeps.setCell {S : List Nat} {a w : World} (h : Keeps S a w) {p : Addr} (hp : p.block ∈ S ∨ a.heap.size ≤ p.block) (u : Value) : Keeps S a (w.setCell p u) := by
  refine ⟨h.os, h.tape, h.output, Nat.le_trans h.size (by simp [World.setCell]), fun k hk hS => ?_⟩
  have hne : k ≠ p.block := by
    rcases hp with hp | hp
    · exact fun e => hS (e ▸ hp)
    · omega
  rw [Below.heap_setCell _ _ _ _ hne]
  exact h.block k hk hS

theorem Keeps.grown {S : List Nat} {a w w' : World} {row : Option Nat} (h : Keeps S a w) (hg : w.grownBy w' row) (hr : ∀ k, row = some k → k ∈ S ∨ a.heap.size ≤ k) : Keeps S a w' := by
  refine ⟨hg.os.trans h.os, hg.tape.trans h.tape, hg.output.trans h.output, Nat.le_trans h.size hg.size, fun k hk hS => ?_⟩
  have hne : some k ≠ row := by
    intro e
    rcases hr k e.symm with h' | h'
    · exact hS h'
    · omega
  rw [hg.block k (Nat.lt_of_lt_of_le hk h.size) hne]
  exact h.block k hk hS

theorem Keeps.below {S : List Nat} {w w' : World} (h : Keeps S w w') {B : Nat} (hB : B ≤ w.heap.size) (hS : ∀ k, k ∈ S → B ≤ k) : Below B w w' :=
  ⟨h.os, h.tape, h.output, h.size, fun k hk => h.block k (by omega) fun hs => by have := hS k hs; omega⟩

theorem Keeps.of_below {w w' : World} (h : Below w.heap.size w w') : Keeps [] w w' := ⟨h.os, h.tape, h.output, h.size, fun k hk _ => h.block k hk⟩

theorem Keeps.nil_below {w w' : World} (h : Keeps [] w w') : Below w.heap.size w w' := h.below (Nat.le_refl _) (by simp)

/-- What is owned stays owned where its block is not listed. -/
theorem Keeps.owns {S : List Nat} {w w' : World} (h : Keeps S w w') {B : Nat} {e : TypeId} {z : Nat} {v : Value} {n : Nat} {xs : List Value} (ho : w.ownsRow B e z v n xs) (hn : ∀ k, v.ownBlock = some k → k ∉ S) : w'.ownsRow B e z v n xs := by
  refine ⟨ho.1, ?_⟩
  rcases ho.2 with ⟨rfl, h0⟩ | ⟨g, cap, cur, rfl, hb, hg, hr⟩
  · exact .inl ⟨rfl, h0⟩
  · have hlt : g < w.heap.size := by
      rcases Nat.lt_or_ge g w.heap.size with h' | h'
      · exact h'
      · rw [Array.getElem?_eq_none h'] at hg; simp at hg
    exact .inr ⟨g, cap, cur, rfl, hb, by rw [h.block g hlt (hn g rfl)]; exact hg, hr⟩

/-- The text s, read up to the place k, lies in block b. -/
def IsText (w : World) (b : Nat) (s : ByteArray) (k : Nat) : Prop := w.heap[b]? = some (.cells #[.string s, .int .i64 k] 50 (0, 0))

theorem IsText.lt {w : World} {b : Nat} {s : ByteArray} {k : Nat} (h : IsText w b s k) : b < w.heap.size := by
  rcases Nat.lt_or_ge b w.heap.size with h' | h'
  · exact h'
  · rw [IsText, Array.getElem?_eq_none h'] at h; simp at h

theorem IsText.keeps {S : List Nat} {w w' : World} {b : Nat} {s : ByteArray} {k : Nat} (h : IsText w b s k) (hk : Keeps S w w') (hb : b ∉ S) : IsText w' b s k := by
  rw [IsText, hk.block b h.lt hb]; exact h

theorem IsText.cell0 {w : World} {b : Nat} {s : ByteArray} {k : Nat} (h : IsText w b s k) : w.cell? ⟨b, 0, none⟩ = some (.string s) := by
  simp [World.cell?, IsText] at h ⊢; simp [h]
theorem IsText.cell1 {w : World} {b : Nat} {s : ByteArray} {k : Nat} (h : IsText w b s k) : w.cell? ⟨b, 1, none⟩ = some (.int .i64 k) := by
  simp [World.cell?, IsText] at h ⊢; simp [h]
theorem IsText.free1 {w : World} {b : Nat} {s : ByteArray} {k : Nat} (h : IsText w b s k) : w.frozen? ⟨b, 1, none⟩ = false := by
  simp [World.frozen?, IsText] at h ⊢; simp [h]
theorem IsText.set {w : World} {b : Nat} {s : ByteArray} {k : Nat} (h : IsText w b s k) (m : Nat) : IsText (w.setCell ⟨b, 1, none⟩ (.int .i64 m)) b s m := by
  simp [World.setCell, IsText, Array.getElem?_modify] at h ⊢; simp [h]
end Go.Proofs.YtngojdajamgabadDoor
